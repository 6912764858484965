import Derived.Test.YteapmddadieohaaSpB
namespace Go.Proofs.Yteapmddadieohaa
open Go.RowKit
set_option maxHeartbeats 1000000

/-- The two boxes of NetOk: its net, its result. -/
structure NB (w wr : World) (x y : Value) : Prop where
  n0 : wr.cell? ⟨w.heap.size, 0, none⟩ = some x
  n1 : wr.cell? ⟨w.heap.size, 1, none⟩ = some y
  r0 : wr.cell? ⟨w.heap.size + 1, 0, none⟩ = some (.int .i64 0)
  r1 : wr.cell? ⟨w.heap.size + 1, 1, none⟩ = some (.int .i64 0)
  f0 : wr.frozen? ⟨w.heap.size + 1, 0, none⟩ = false
  f1 : wr.frozen? ⟨w.heap.size + 1, 1, none⟩ = false
  hb : Below w.heap.size w wr

theorem NB.later {w wr w' : World} {x y} (h : NB w wr x y) (hb : Below wr.heap.size wr w') : NB w w' x y :=
  ⟨cell_later' hb h.n0, cell_later' hb h.n1, cell_later' hb h.r0, cell_later' hb h.r1, by rw [hb.frozen (p := ⟨w.heap.size + 1, 0, none⟩) (cell_lt h.r0)]; exact h.f0, by rw [hb.frozen (p := ⟨w.heap.size + 1, 1, none⟩) (cell_lt h.r0)]; exact h.f1, h.hb.trans (hb.mono h.hb.size)⟩

theorem specNetOk_any (a a' : Option Addr) (N : Nt) (cap cap' : Nat) (w : World) (hn : N.pcs.length ≤ 1048576) (hs : ∀ p ∈ N.pcs, p.name.size ≤ 1048576) (hl : N.jts.length ≤ 1048576) (hm : ∀ j ∈ N.jts, j.name.size ≤ 1048576 ∧ j.ends.length ≤ 1048576) (hp : PcsAt w a N.pcs) (hj : JtsAt w a' N.jts) :
    Calls Try.prog 44 #[.agg #[.slice a N.pcs.length cap, .slice a' N.jts.length cap']] w fun e w' =>
    e = .returned (.agg #[.int .i64 (netOk N).1, .int .i64 (netOk N).2]) ∧ Below w.heap.size w w' := by
  have HP := hide hp
  have HJ := hide hj
  have HM := hide hm
  have HS := hide hs
  clear hp hj hm hs
  cases hsb : sizeBad N
  case true =>
    have hc : N.pcs.length = 0 ∨ (1 ≤ N.pcs.length ∧ 100 < N.pcs.length) ∨ (1 ≤ N.pcs.length ∧ N.pcs.length ≤ 100 ∧ 120 < N.jts.length) := by
      unfold sizeBad at hsb; simp only [Bool.or_eq_true, decide_eq_true_eq] at hsb; omega
    have HB := hide (netOk_1 hsb)
    clear hsb
    rcases hc with hc | ⟨hc1, hc2⟩ | ⟨hc1, hc2, hc3⟩
    · have q0 : ((N.pcs.length : Int) == 0) = true := by rw [beq_iff_eq]; omega
      have HC := hide hc
      clear hc
      go_enter Try.func44, Try.ntmps44
      go_wp2_with fail
      exact bodyPost_ret (v := .agg #[.int .i64 1, .int .i64 0]) (by simp [results, Try.results44, go_sem]) rfl ⟨by rw [HB.out], by repeat (first | exact Below.refl _ _ | refine Below.setCell ?_ (by simp) _ | refine Below.alloc ?_ (by simp) _)⟩
    · have q0 : ((N.pcs.length : Int) == 0) = false := by rw [beq_eq_false_iff_ne]; omega
      have q1 : decide (100 < (N.pcs.length : Int)) = true := by rw [decide_eq_true_eq]; omega
      go_enter Try.func44, Try.ntmps44
      go_wp2_with fail
      exact bodyPost_ret (v := .agg #[.int .i64 1, .int .i64 0]) (by simp [results, Try.results44, go_sem]) rfl ⟨by rw [HB.out], by repeat (first | exact Below.refl _ _ | refine Below.setCell ?_ (by simp) _ | refine Below.alloc ?_ (by simp) _)⟩
    · have q0 : ((N.pcs.length : Int) == 0) = false := by rw [beq_eq_false_iff_ne]; omega
      have q1 : decide (100 < (N.pcs.length : Int)) = false := by rw [decide_eq_false_iff_not]; omega
      have q2 : decide (120 < (N.jts.length : Int)) = true := by rw [decide_eq_true_eq]; omega
      go_enter Try.func44, Try.ntmps44
      go_wp2_with fail
      exact bodyPost_ret (v := .agg #[.int .i64 1, .int .i64 0]) (by simp [results, Try.results44, go_sem]) rfl ⟨by rw [HB.out], by repeat (first | exact Below.refl _ _ | refine Below.setCell ?_ (by simp) _ | refine Below.alloc ?_ (by simp) _)⟩
  case false =>
    have hc : ¬ (N.pcs.length = 0) ∧ N.pcs.length ≤ 100 ∧ N.jts.length ≤ 120 := by
      unfold sizeBad at hsb; simp only [Bool.or_eq_false_iff, decide_eq_false_iff_not] at hsb; omega
    obtain ⟨hc1, hc2, hc3⟩ := hc
    have HB := hide hsb
    clear hsb
    have q0 : ((N.pcs.length : Int) == 0) = false := by rw [beq_eq_false_iff_ne]; omega
    have q1 : decide (100 < (N.pcs.length : Int)) = false := by rw [decide_eq_false_iff_not]; omega
    have q2 : decide (120 < (N.jts.length : Int)) = false := by rw [decide_eq_false_iff_not]; omega
    have HC1 := hide hc1
    clear hc1
    go_enter Try.func44, Try.ntmps44
    go_wp2_with fail
    have hbW : Below w.heap.size w ((w.alloc (.cells #[.slice a N.pcs.length cap, .slice a' N.jts.length cap'] 26)).alloc (.cells #[.int .i64 0, .int .i64 0] 81)) := ((Below.refl _ _).alloc (Nat.le_refl _) _).alloc (by simp) _
    go_loopw [3, 4, 5, 30] (fun _ _ _ i wr => ∃ (k : Nat), k ≤ N.pcs.length ∧ i = .int .i64 k ∧ (∀ j, j < k → pcBad N.pcs j = false) ∧ NB w wr (.slice a N.pcs.length cap) (.slice a' N.jts.length cap')) (fun _ _ _ i _ => N.pcs.length - (intOf i).toNat)
    case atStart => exact ⟨0, Nat.zero_le _, rfl, by intro u hu; omega, ⟨by simp [go_sem], by simp [go_sem], by simp [go_sem], by simp [go_sem], by simp [go_sem], by simp [go_sem], hbW⟩⟩
    case round =>
      obtain ⟨k, hk, rfl, hall, hNB⟩ := hrel
      have HA := hide hall
      have HNB := hide hNB
      clear hall
      obtain ⟨n0, n1, r0, r1, f0, f1, hb⟩ := hNB
      have hz0 := cell_lt n0
      have hz1 := cell_lt r0
      by_cases hlt : k < N.pcs.length
      · obtain ⟨b, off, rfl, c0, c1, c2, c3⟩ := (PcsAt.later HP.out hb) k hlt
        have hblt := cell_lt c0
        have hbA : Below wr.heap.size wr (wr.alloc (.cells #[.string N.pcs[k].name, .int .i64 N.pcs[k].len, .int .i64 N.pcs[k].speed, .int .i64 N.pcs[k].brake] 41)) := (Below.refl _ _).alloc (Nat.le_refl _) _
        have hsz := HS.out _ (List.getElem_mem hlt)
        cases h1 : nm N.pcs[k].name
        case false =>
          have H1 := hide h1
          clear h1
          go_wp2_with fail
          refine (l1name_any N.pcs[k].name _ hsz).mono ?_
          rintro e w1 ⟨rfl, rfl⟩
          rw [H1.out]
          go_wp2_with fail
          have hpb : pcBad N.pcs k = true := by rw [pcBad_eq hlt]; simp [Pc.ok, H1.out]
          exact bodyPost_ret (v := .agg #[.int .i64 2, .int .i64 k]) (by simp [results, Try.results44, go_sem, r0, r1, hz1]) rfl ⟨by rw [netOk_2 HB.out hlt hpb HA.out], by repeat (first | exact hb | refine Below.setCell ?_ (by simp) _ | refine Below.alloc ?_ (by simpa using hb.size) _)⟩
        have H1 := hide h1
        clear h1
        cases h2 : inR N.pcs[k].len 1 10000000
        case false =>
          have H2 := hide h2
          clear h2
          go_wp2_with fail
          refine (l1name_any N.pcs[k].name _ hsz).mono ?_
          rintro e w1 ⟨rfl, rfl⟩
          rw [H1.out]
          go_wp2_with fail
          refine (l1in_any _ _ _ _).mono ?_
          rintro e w1 ⟨rfl, rfl⟩
          rw [H2.out]
          go_wp2_with fail
          have hpb : pcBad N.pcs k = true := by rw [pcBad_eq hlt]; simp [Pc.ok, H1.out, H2.out]
          exact bodyPost_ret (v := .agg #[.int .i64 2, .int .i64 k]) (by simp [results, Try.results44, go_sem, r0, r1, hz1]) rfl ⟨by rw [netOk_2 HB.out hlt hpb HA.out], by repeat (first | exact hb | refine Below.setCell ?_ (by simp) _ | refine Below.alloc ?_ (by simpa using hb.size) _)⟩
        have H2 := hide h2
        clear h2
        cases h3 : inR N.pcs[k].speed 1 10000
        case false =>
          have H3 := hide h3
          clear h3
          go_wp2_with fail
          refine (l1name_any N.pcs[k].name _ hsz).mono ?_
          rintro e w1 ⟨rfl, rfl⟩
          rw [H1.out]
          go_wp2_with fail
          refine (l1in_any _ _ _ _).mono ?_
          rintro e w1 ⟨rfl, rfl⟩
          rw [H2.out]
          go_wp2_with fail
          refine (l1in_any _ _ _ _).mono ?_
          rintro e w1 ⟨rfl, rfl⟩
          rw [H3.out]
          go_wp2_with fail
          have hpb : pcBad N.pcs k = true := by rw [pcBad_eq hlt]; simp [Pc.ok, H1.out, H2.out, H3.out]
          exact bodyPost_ret (v := .agg #[.int .i64 2, .int .i64 k]) (by simp [results, Try.results44, go_sem, r0, r1, hz1]) rfl ⟨by rw [netOk_2 HB.out hlt hpb HA.out], by repeat (first | exact hb | refine Below.setCell ?_ (by simp) _ | refine Below.alloc ?_ (by simpa using hb.size) _)⟩
        have H3 := hide h3
        clear h3
        cases h4 : inR N.pcs[k].brake 1 1000
        case false =>
          have H4 := hide h4
          clear h4
          go_wp2_with fail
          refine (l1name_any N.pcs[k].name _ hsz).mono ?_
          rintro e w1 ⟨rfl, rfl⟩
          rw [H1.out]
          go_wp2_with fail
          refine (l1in_any _ _ _ _).mono ?_
          rintro e w1 ⟨rfl, rfl⟩
          rw [H2.out]
          go_wp2_with fail
          refine (l1in_any _ _ _ _).mono ?_
          rintro e w1 ⟨rfl, rfl⟩
          rw [H3.out]
          go_wp2_with fail
          refine (l1in_any _ _ _ _).mono ?_
          rintro e w1 ⟨rfl, rfl⟩
          rw [H4.out]
          go_wp2_with fail
          have hpb : pcBad N.pcs k = true := by rw [pcBad_eq hlt]; simp [Pc.ok, H1.out, H2.out, H3.out, H4.out]
          exact bodyPost_ret (v := .agg #[.int .i64 2, .int .i64 k]) (by simp [results, Try.results44, go_sem, r0, r1, hz1]) rfl ⟨by rw [netOk_2 HB.out hlt hpb HA.out], by repeat (first | exact hb | refine Below.setCell ?_ (by simp) _ | refine Below.alloc ?_ (by simpa using hb.size) _)⟩
        have H4 := hide h4
        clear h4
        go_wp2_with fail
        refine (l1name_any N.pcs[k].name _ hsz).mono ?_
        rintro e w1 ⟨rfl, rfl⟩
        rw [H1.out]
        go_wp2_with fail
        refine (l1in_any _ _ _ _).mono ?_
        rintro e w1 ⟨rfl, rfl⟩
        rw [H2.out]
        go_wp2_with fail
        refine (l1in_any _ _ _ _).mono ?_
        rintro e w1 ⟨rfl, rfl⟩
        rw [H3.out]
        go_wp2_with fail
        refine (l1in_any _ _ _ _).mono ?_
        rintro e w1 ⟨rfl, rfl⟩
        rw [H4.out]
        have hok : N.pcs[k].ok = true := by simp [Pc.ok, H1.out, H2.out, H3.out, H4.out]
        have HOK := hide hok
        clear hok
        go_wp2_with fail
        go_loopw [5] (fun i wi => ∃ (t : Nat), t ≤ k ∧ i = .int .i64 t ∧ (∀ u (_ : u < t) (hu : u < N.pcs.length), (N.pcs[u].name.toList == N.pcs[k].name.toList) = false) ∧ wi.cell? ⟨wr.heap.size, 0, none⟩ = some (.string N.pcs[k].name) ∧ Below wr.heap.size wr wi) (fun i _ => k - (intOf i).toNat)
        case atStart => exact ⟨0, Nat.zero_le _, rfl, by intro u hu; omega, by simp [go_sem], hbA⟩
        case round =>
          obtain ⟨t, ht, rfl, hall2, cn, hb2⟩ := hrel
          have HA2 := hide hall2
          clear hall2
          obtain ⟨n0', n1', r0', r1', f0', f1', hb'⟩ := HNB.out.later hb2
          by_cases hti : t < k
          · obtain ⟨b2, off2, hab, d0, d1, d2, d3⟩ := (PcsAt.later HP.out hb') t (by omega)
            obtain ⟨rfl, rfl⟩ : b = b2 ∧ off = off2 := by simpa using hab
            clear hab
            go_wp2_with fail
            go_quiet (fail)
            go_wp2_with fail
            · have heq : (N.pcs[t].name.toList == N.pcs[k].name.toList) = true := by assumption
              have hpb : pcBad N.pcs k = true := by rw [pcBad_eq hlt, any_take_true (l := N.pcs) (k := k) (u := t) hti (by omega) heq]; simp
              exact bodyPost_ret (v := .agg #[.int .i64 2, .int .i64 k]) (by simp [results, Try.results44, go_sem, r0', r1']) rfl ⟨by rw [netOk_2 HB.out hlt hpb HA.out], by repeat (first | exact hb' | refine Below.setCell ?_ (by simp) _ | refine below_drewN ?_ _)⟩
            · have heq : (N.pcs[t].name.toList == N.pcs[k].name.toList) = false := by assumption
              refine ⟨⟨t + 1, by omega, by go_num, ?_, by simpa [go_sem] using cn, below_drewN hb2 _⟩, by simp [intOf]; omega⟩
              intro u hu hu'
              by_cases e : u = t
              · subst e; exact heq
              · exact HA2.out u (by omega) hu'
          · go_wp2_with fail
            go_roundw
            case rel =>
              refine ⟨k + 1, by omega, by go_num, ?_, HNB.out.later hb2⟩
              intro j hj
              by_cases e : j = k
              · subst e; rw [pcBad_eq hlt, any_take_false (l := N.pcs) (k := j) (fun u hu hu' => HA2.out u (by omega) hu'), HOK.out]; rfl
              · exact HA.out j (by omega)
            case measure => simp [intOf]; omega
      · have HA' : Hid (∀ j, j < N.pcs.length → pcBad N.pcs j = false) := fun j hj => HA.out j (by omega)
        clear HA
        go_wp2_with fail
        go_loopw [6, 7] (fun c _ wi => ∃ (q : Nat), q ≤ 2 ∧ c = .int .i64 (3 + q) ∧ (1 ≤ q → ∀ j, j < N.jts.length → jtBad3 N.pcs.length N.jts j = false) ∧ (2 ≤ q → ∀ j, j < N.jts.length → jtBad4 N.jts j = false) ∧ Below wr.heap.size wr wi) (fun c _ _ => (5 - intOf c).toNat)
        case atStart => exact ⟨0, by omega, rfl, by omega, by omega, Below.refl _ _⟩
        case round =>
          obtain ⟨q, hq, rfl, hq3, hq4, hb2⟩ := hrel
          have HQ3 := hide hq3
          have HQ4 := hide hq4
          clear hq3 hq4
          have HNB2 := hide (HNB.out.later hb2)
          obtain ⟨n0', n1', r0', r1', f0', f1', hb'⟩ := HNB2.out
          clear n0 n1 r0 r1 f0 f1
          by_cases hq2 : q < 2
          · have hd : decide (3 + (q : Int) ≤ 4) = true := by rw [decide_eq_true_eq]; omega
            go_wp2_with fail
            go_loopw [7, 83] (fun _ i wj => ∃ (t : Nat), t ≤ N.jts.length ∧ i = .int .i64 t ∧ (∀ u, u < t → (jcode N.pcs.length N.jts u == 3 + (q : Int)) = false) ∧ Below wr.heap.size wr wj) (fun _ i _ => N.jts.length - (intOf i).toNat)
            case atStart => exact ⟨0, by omega, rfl, by omega, Below.refl _ _⟩
            case round =>
              obtain ⟨t, ht, rfl, hall, hb3⟩ := hrel
              have HL := hide hall
              clear hall
              have HNB3 := hide (HNB2.out.later hb3)
              obtain ⟨n0, n1, r0, r1, f0, f1, hb⟩ := HNB3.out
              clear n0' n1' r0' r1' f0' f1'
              by_cases hti : t < N.jts.length
              · go_wp2_with fail
                refine (l1joint_any a a' N.pcs.length cap cap' N.jts t hti _ hn hl HM.out (HJ.out.later hb)).mono ?_
                rintro e w1 ⟨rfl, hb4⟩
                have HNB4 := hide (HNB3.out.later hb4)
                obtain ⟨n0', n1', r0', r1', f0', f1', hb'⟩ := HNB4.out
                clear n0 n1 r0 r1 f0 f1
                cases hjc : (jcode N.pcs.length N.jts t == 3 + (q : Int))
                · have HJC := hide hjc
                  go_wp2_with fail
                  go_roundw
                  case rel =>
                    refine ⟨t + 1, by omega, by go_num, ?_, hb3.trans (hb4.mono hb3.size)⟩
                    intro u hu
                    by_cases e : u = t
                    · subst e; exact HJC.out
                    · exact HL.out u (by omega)
                  case measure => simp [intOf]; omega
                · have HJC := hide hjc
                  go_wp2_with fail
                  refine bodyPost_ret (v := .agg #[.int .i64 (3 + q), .int .i64 t]) (by simp [results, Try.results44, go_sem, r0', r1']) rfl ⟨?_, by repeat (first | exact hb' | refine Below.setCell ?_ (by simp) _)⟩
                  have hq01 : q = 0 ∨ q = 1 := by omega
                  rcases hq01 with rfl | rfl
                  · rw [netOk_3 HB.out HA'.out hti (by rw [← jcode_3]; exact HJC.out) (fun j hj => by rw [← jcode_3]; exact HL.out j hj)]; rfl
                  · have h3 := HQ3.out (by omega)
                    rw [netOk_4 HB.out HA'.out h3 hti (by rw [← jcode_4 (h3 t hti)]; exact HJC.out) (fun j hj => by rw [← jcode_4 (h3 j (by omega))]; exact HL.out j hj)]; rfl
              · go_wp2_with fail
                go_roundw
                case rel =>
                  refine ⟨q + 1, by omega, by go_num, ?_, ?_, hb2.trans (hb3.mono hb2.size)⟩
                  · intro _ j hj
                    by_cases e : q = 0
                    · subst e; rw [← jcode_3]; exact HL.out j (by omega)
                    · exact HQ3.out (by omega) j hj
                  · intro _ j hj
                    obtain rfl : q = 1 := by omega
                    rw [← jcode_4 (HQ3.out (by omega) j hj)]; exact HL.out j (by omega)
                case measure => simp [intOf]; omega
          · have hq3 := hide (HQ3.out (by omega))
            have hq4 := hide (HQ4.out (by omega))
            go_wp2_with fail
            go_loopw [8, 9, 98] (fun _ _ i wj => ∃ (t : Nat), t ≤ N.pcs.length ∧ i = .int .i64 t ∧ (∀ u, u < t → pcBad5 N.jts u = false) ∧ Below wr.heap.size wr wj) (fun _ _ i _ => N.pcs.length - (intOf i).toNat)
            case atStart => exact ⟨0, by omega, rfl, by omega, Below.refl _ _⟩
            case round =>
              obtain ⟨t, ht, rfl, hall, hb3⟩ := hrel
              have HL := hide hall
              clear hall
              have HNB3 := hide (HNB2.out.later hb3)
              obtain ⟨n0, n1, r0, r1, f0, f1, hb⟩ := HNB3.out
              clear n0' n1' r0' r1' f0' f1'
              by_cases hti : t < N.pcs.length
              · go_wp2_with fail
                go_loopw [9] (fun i wj => ∃ (s : Nat), s ≤ 2 ∧ i = .int .i64 s ∧ (∀ u : Nat, u < s → uses N.jts ((t : Int), (u : Int)) = 1) ∧ Below wr.heap.size wr wj) (fun i _ => 2 - (intOf i).toNat)
                case atStart => exact ⟨0, by omega, rfl, by omega, Below.refl _ _⟩
                case round =>
                  obtain ⟨s, hs, rfl, hall, hb5⟩ := hrel
                  have HU := hide hall
                  clear hall
                  have HNB5 := hide (HNB3.out.later hb5)
                  obtain ⟨n0', n1', r0', r1', f0', f1', hb'⟩ := HNB5.out
                  clear n0 n1 r0 r1 f0 f1
                  by_cases hsi : s < 2
                  · go_wp2_with fail
                    refine (l1uses_any a a' N.pcs.length cap cap' N.jts t s _ hl (fun j hj => (HM.out j hj).2) (HJ.out.later hb')).mono ?_
                    rintro e w1 ⟨rfl, hb4⟩
                    have HNB4 := hide (HNB5.out.later hb4)
                    obtain ⟨n0, n1, r0, r1, f0, f1, hb⟩ := HNB4.out
                    clear n0' n1' r0' r1' f0' f1'
                    by_cases hu1 : uses N.jts ((t : Int), (s : Int)) = 1
                    · have hne : ((uses N.jts ((t : Int), (s : Int)) : Int) != 1) = false := by rw [hu1]; rfl
                      have HU1 := hide hu1
                      clear hu1
                      go_wp2_with fail
                      go_roundw
                      case rel =>
                        refine ⟨s + 1, by omega, by go_num, ?_, hb5.trans (hb4.mono hb5.size)⟩
                        intro u hu
                        by_cases e : u = s
                        · subst e; exact HU1.out
                        · exact HU.out u (by omega)
                      case measure => simp [intOf]; omega
                    · have hne : ((uses N.jts ((t : Int), (s : Int)) : Int) != 1) = true := by rw [bne_iff_ne]; omega
                      have HU1 := hide hu1
                      clear hu1
                      go_wp2_with fail
                      refine bodyPost_ret (v := .agg #[.int .i64 5, .int .i64 t]) (by simp [results, Try.results44, go_sem, r0, r1]) rfl ⟨?_, by repeat (first | exact hb | refine Below.setCell ?_ (by simp) _)⟩
                      have hbad : pcBad5 N.jts t = true := by
                        have hs01 : s = 0 ∨ s = 1 := by omega
                        rcases hs01 with rfl | rfl
                        · exact pcBad5_true0 HU1.out
                        · exact pcBad5_true1 HU1.out
                      rw [netOk_5 HB.out HA'.out hq3.out hq4.out hti hbad HL.out]
                  · go_wp2_with fail
                    go_roundw
                    case rel =>
                      refine ⟨t + 1, by omega, by go_num, ?_, hb3.trans (hb5.mono hb3.size)⟩
                      intro u hu
                      by_cases e : u = t
                      · subst e; exact pcBad5_false (HU.out 0 (by omega)) (HU.out 1 (by omega))
                      · exact HL.out u (by omega)
                    case measure => simp [intOf]; omega
              · go_wp2_with fail
                refine bodyPost_ret (v := .agg #[.int .i64 0, .int .i64 0]) (by simp [results, Try.results44, go_sem, r0, r1]) rfl ⟨?_, by repeat (first | exact hb | refine Below.setCell ?_ (by simp) _)⟩
                rw [netOk_0 HB.out HA'.out hq3.out hq4.out (fun j hj => HL.out j (by omega))]
end Go.Proofs.Yteapmddadieohaa
