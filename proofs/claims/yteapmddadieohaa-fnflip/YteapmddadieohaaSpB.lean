import Derived.Test.YteapmddadieohaaMxAD
import Derived.Deep.QuietTactic
import Derived.BigQuiet
namespace Go.Proofs.Yteapmddadieohaa
open Go.RowKit
set_option maxHeartbeats 1000000

theorem l1joint_any (a a' : Option Addr) (n cap cap' : Nat) (js : List Jt) (k : Nat) (hk : k < js.length) (w : World) (hn : n ≤ 1048576) (hl : js.length ≤ 1048576) (hm : ∀ j ∈ js, j.name.size ≤ 1048576 ∧ j.ends.length ≤ 1048576) (hj : JtsAt w a' js) :
    Calls Try.prog 58 #[.agg #[.slice a n cap, .slice a' js.length cap'], .int .i64 k] w fun e w' =>
    e = .returned (.int .i64 (jcode n js k)) ∧ Below w.heap.size w w' := by
  obtain ⟨b, off, ea, ec, rfl, c0, c1, c2, ce⟩ := hj k hk
  have hblt := cell_lt c0
  have hmk := hm _ (List.getElem_mem hk)
  have HJ := hide hj
  have HM := hide hm
  have CE := hide ce
  have H3 := hide (jtBad3_eq (n := n) hk)
  have H4 := hide (jtBad4_eq hk)
  clear hj hm ce
  cases h1 : inR js[k].kind 1 4
  · have HK := hide h1
    clear h1
    go_enter Try.func58, Try.ntmps58
    go_wp2_with fail
    refine (l1in_any _ _ _ _).mono ?_
    rintro e w1 ⟨rfl, rfl⟩
    rw [HK.out]
    go_wp2_with fail
    go_ret
    refine ⟨ret_i ?_, ((Below.refl _ _).alloc (Nat.le_refl _) _).alloc (by simp) _⟩
    simp [jcode, H3.out, HK.out]
  have HK := hide h1
  have hkr : 1 ≤ js[k].kind ∧ js[k].kind ≤ 4 := by simpa [inR] using h1
  clear h1
  cases h2 : ((js[k].ends.length : Int) != js[k].kind)
  case true =>
    have H2 := hide h2
    go_enter Try.func58, Try.ntmps58
    go_wp2_with fail
    refine (l1in_any _ _ _ _).mono ?_
    rintro e w1 ⟨rfl, rfl⟩
    rw [HK.out]
    go_wp2_with fail
    go_ret
    refine ⟨ret_i ?_, ((Below.refl _ _).alloc (Nat.le_refl _) _).alloc (by simp) _⟩
    simp only [jcode, H3.out, H2.out]
    simp
  case false =>
    have H2 := hide h2
    go_enter Try.func58, Try.ntmps58
    go_wp2_with fail
    refine (l1in_any _ _ _ _).mono ?_
    rintro e w1 ⟨rfl, rfl⟩
    rw [HK.out]
    go_wp2_with fail
    have hbW : Below w.heap.size w ((w.alloc (.cells #[.slice a n cap, .slice (some ⟨b, off, none⟩) js.length cap'] 26)).alloc (.cells #[.int .i64 js[k].kind, .string js[k].name, .slice ea js[k].ends.length ec] 53)) := ((Below.refl _ _).alloc (Nat.le_refl _) _).alloc (by simp) _
    go_loopw [29] (fun i wr => ∃ (t : Nat), t ≤ js[k].ends.length ∧ i = .int .i64 t ∧ (∀ u (_ : u < t) (hu : u < js[k].ends.length), endOk n js[k].ends[u] = true) ∧ wr.cell? ⟨w.heap.size, 0, none⟩ = some (.slice a n cap) ∧ wr.cell? ⟨w.heap.size, 1, none⟩ = some (.slice (some ⟨b, off, none⟩) js.length cap') ∧ wr.cell? ⟨w.heap.size + 1, 0, none⟩ = some (.int .i64 js[k].kind) ∧ wr.cell? ⟨w.heap.size + 1, 1, none⟩ = some (.string js[k].name) ∧ wr.cell? ⟨w.heap.size + 1, 2, none⟩ = some (.slice ea js[k].ends.length ec) ∧ Below w.heap.size w wr) (fun i _ => js[k].ends.length - (intOf i).toNat)
    case atStart => exact ⟨0, Nat.zero_le _, rfl, by intro u hu; omega, by simp [go_sem], by simp [go_sem], by simp [go_sem], by simp [go_sem], by simp [go_sem], hbW⟩
    case round =>
      obtain ⟨t, ht, rfl, hall, n0, n1, j0, j1, j2, hb⟩ := hrel
      have HA := hide hall
      clear hall
      have hz0 := cell_lt n0
      have hz1 := cell_lt j0
      by_cases hti : t < js[k].ends.length
      · obtain ⟨b2, off2, rfl, d0, d1⟩ := (EndsAt.later CE.out hb) t hti
        go_wp2_with fail
        refine (l1end_any _ _ _ _ _ _ _ _ _ hn).mono ?_
        rintro e w1 ⟨rfl, hb1⟩
        have hbA : Below wr.heap.size wr w1 := ((Below.refl _ _).alloc (Nat.le_refl _) _).trans (hb1.mono (by simp))
        have n0' := cell_later' hbA n0
        have n1' := cell_later' hbA n1
        have j0' := cell_later' hbA j0
        have j1' := cell_later' hbA j1
        have j2' := cell_later' hbA j2
        have hb2 := hb.trans (hbA.mono hb.size)
        cases he : endOk n (js[k].ends[t].1, js[k].ends[t].2)
        · have HE := hide he
          clear he
          go_wp2_with fail
          go_ret
          refine ⟨ret_i ?_, hb2⟩
          have hany : js[k].ends.any (fun e => !endOk n e) = true := any_true' hti (by simp; exact HE.out)
          simp only [jcode, H3.out, hany]
          simp
        · have HE := hide he
          clear he
          go_wp2_with fail
          go_roundw
          case rel =>
            refine ⟨t + 1, by omega, by go_num, ?_, n0', n1', j0', j1', j2', hb2⟩
            intro u hu hu'
            by_cases e : u = t
            · subst e; exact HE.out
            · exact HA.out u (by omega) hu'
          case measure => simp [intOf]; omega
      · have hb3 : jtBad3 n js k = false := by
          rw [H3.out, HK.out, H2.out, any_false' (l := js[k].ends) (p := fun e => !endOk n e) (fun u hu => by simp [HA.out u (by omega) hu])]; rfl
        have HB3 := hide hb3
        clear hb3
        by_cases hk3 : js[k].kind < 3
        · cases hnm : (js[k].name.toList.isEmpty)
          · have HNM := hide hnm
            have hnm' : (!js[k].name.toList.isEmpty) = true := by rw [hnm]; rfl
            clear hnm
            go_wp2_with fail
            go_ret
            refine ⟨ret_i ?_, hb⟩
            rw [jcode, HB3.out, H4.out, if_pos hk3, HNM.out]; rfl
          · have HNM := hide hnm
            have hnm' : (!js[k].name.toList.isEmpty) = false := by rw [hnm]; rfl
            clear hnm
            go_wp2_with fail
            go_ret
            refine ⟨ret_i ?_, hb⟩
            rw [jcode, HB3.out, H4.out, if_pos hk3, HNM.out]; rfl
        · go_wp2_with fail
          refine (l1name_any js[k].name _ hmk.1).mono ?_
          rintro e w1 ⟨rfl, rfl⟩
          cases hnm : nm js[k].name
          · have HNM := hide hnm
            clear hnm
            go_wp2_with fail
            go_ret
            refine ⟨ret_i ?_, hb⟩
            rw [jcode, HB3.out, H4.out, if_neg (show ¬ js[k].kind < 3 by omega), HNM.out]; rfl
          · have HNM := hide hnm
            clear hnm
            go_wp2_with fail
            go_loopw [8] (fun i wi => ∃ (t : Nat), t ≤ k ∧ i = .int .i64 t ∧ (∀ u (_ : u < t) (hu : u < js.length), (js[u].name.toList == js[k].name.toList) = false) ∧ Below wr.heap.size wr wi) (fun i _ => k - (intOf i).toNat)
            case atStart => exact ⟨0, Nat.zero_le _, rfl, by intro u hu; omega, Below.refl _ _⟩
            case round =>
              obtain ⟨t2, ht2, rfl, hall2, hb2⟩ := hrel
              have HA2 := hide hall2
              clear hall2
              by_cases hti2 : t2 < k
              · obtain ⟨b2, off2, ea2, ec2, hab, d0, d1, d2, _⟩ := (JtsAt.later HJ.out (hb.trans (hb2.mono hb.size))) t2 (by omega)
                obtain ⟨rfl, rfl⟩ : b = b2 ∧ off = off2 := by simpa using hab
                clear hab
                have m1 := cell_later' hb2 n1
                have m2 := cell_later' hb2 j1
                go_wp2_with fail
                go_quiet (fail)
                go_wp2_with fail
                · go_ret
                  have heq : (js[t2].name.toList == js[k].name.toList) = true := by assumption
                  refine ⟨ret_i ?_, below_drewN (hb.trans (hb2.mono hb.size)) _⟩
                  rw [jcode, HB3.out, H4.out, if_neg (show ¬ js[k].kind < 3 by omega), HNM.out, any_take_true (l := js) (k := k) (u := t2) hti2 (by omega) heq]; rfl
                · have heq : (js[t2].name.toList == js[k].name.toList) = false := by assumption
                  refine ⟨⟨t2 + 1, by omega, by go_num, ?_, below_drewN hb2 _⟩, by simp [intOf]; omega⟩
                  intro u hu hu'
                  by_cases e : u = t2
                  · subst e; exact heq
                  · exact HA2.out u (by omega) hu'
              · go_wp2_with fail
                go_ret
                refine ⟨ret_i ?_, hb.trans (hb2.mono hb.size)⟩
                rw [jcode, HB3.out, H4.out, if_neg (show ¬ js[k].kind < 3 by omega), HNM.out, any_take_false (l := js) (k := k) (fun u hu hu' => HA2.out u (by omega) hu')]; rfl
end Go.Proofs.Yteapmddadieohaa
