/- Step.to, Step.from, slices.Contains at ends, stepsOk. Own work. -/
import Derived.Test.YtplnppdlabpodaaWaP
import Derived.Test.YtplnppdlabpodaaMxAG
import Derived.Test.YtplnppdlabpodaaImS
import Derived.BigQuiet
namespace Go.Proofs.Ytplnppdlabpodaa
open Go.RowKit
set_option maxHeartbeats 2000000

theorem res2_later {w w1 : World} {c1 c2 : Array Value} {T1 T2 : TypeId} (hb : Below ((w.alloc (.cells c1 T1)).alloc (.cells c2 T2)).heap.size ((w.alloc (.cells c1 T1)).alloc (.cells c2 T2)) w1) (i : Nat) (v : Value) (h : c2[i]? = some v) : w1.cell? ⟨w.heap.size + 1, i, none⟩ = some v ∧ w1.frozen? ⟨w.heap.size + 1, i, none⟩ = false := by
  have h1 := box_cell (w := w.alloc (.cells c1 T1)) hb i v h
  have h2 := box_frozen (w := w.alloc (.cells c1 T1)) hb i
  rw [World.size_alloc] at h1 h2
  exact ⟨h1, h2⟩

theorem stepTo_any (q wy : Int) (w : World) (hwy : wy = 1 ∨ wy = -1) :
    Calls Try.prog 138 #[.agg #[.int .i64 q, .int .i64 wy]] w fun e w' => e = .returned (.agg #[.int .i64 (headP q wy).1, .int .i64 (headP q wy).2]) ∧ Below w.heap.size w w' := by
  have hbW : Below w.heap.size w ((w.alloc (.cells #[.int .i64 q, .int .i64 wy] 125)).alloc (.cells #[.int .i64 0, .int .i64 0] 41)) := ((Below.refl _ _).alloc (Nat.le_refl _) _).alloc (by simp) _
  go_enter Try.func138, Try.ntmps138
  go_wp2_with fail
  refine (facing_any q 0 wy _ hwy).mono ?_
  rintro e w1 ⟨rfl, hb⟩
  have hB := hbW.trans (hb.mono hbW.size)
  obtain ⟨y0, f0⟩ := res2_later hb 0 _ rfl
  obtain ⟨y1, f1⟩ := res2_later hb 1 _ rfl
  clear hb
  generalize hh : headP q wy = h
  have HH := hide hh
  clear hh
  go_wp2_with fail
  exact bodyPost_ret (v := .agg #[.int .i64 h.1, .int .i64 h.2]) (by simp [results, Try.results138, go_sem, y0, y1]) rfl ⟨by rw [HH.out], (hB.setCell (by show w.heap.size ≤ w.heap.size + 1; omega) _).setCell (by show w.heap.size ≤ w.heap.size + 1; omega) _⟩

theorem stepFrom_any (q wy : Int) (w : World) (hwy : wy = 1 ∨ wy = -1) :
    Calls Try.prog 140 #[.agg #[.int .i64 q, .int .i64 wy]] w fun e w' => e = .returned (.agg #[.int .i64 (headP q (-wy)).1, .int .i64 (headP q (-wy)).2]) ∧ Below w.heap.size w w' := by
  have hbW : Below w.heap.size w ((w.alloc (.cells #[.int .i64 q, .int .i64 wy] 125)).alloc (.cells #[.int .i64 0, .int .i64 0] 41)) := ((Below.refl _ _).alloc (Nat.le_refl _) _).alloc (by simp) _
  rcases hwy with rfl | rfl
  all_goals
    go_enter Try.func140, Try.ntmps140
    go_wp2_with fail
    refine (facing_any q 0 _ _ (by omega)).mono ?_
    rintro e w1 ⟨rfl, hb⟩
    have hB := hbW.trans (hb.mono hbW.size)
    obtain ⟨y0, f0⟩ := res2_later hb 0 _ rfl
    obtain ⟨y1, f1⟩ := res2_later hb 1 _ rfl
    clear hb
    generalize hh : headP q _ = h
    have HH := hide hh
    clear hh
    go_wp2_with fail
    exact bodyPost_ret (v := .agg #[.int .i64 h.1, .int .i64 h.2]) (by simp [results, Try.results140, go_sem, y0, y1]) rfl ⟨by first | (rw [← HH.out]; rfl) | rw [← HH.out], (hB.setCell (by show w.heap.size ≤ w.heap.size + 1; omega) _).setCell (by show w.heap.size ≤ w.heap.size + 1; omega) _⟩

theorem indexE_any (a : Option Addr) (cap : Nat) (l : List (Int × Int)) (p s : Int) (w : World) (hl : l.length ≤ 1048576) (h : EndsAt w a l) :
    Calls Try.prog 157 #[.slice a l.length cap, .agg #[.int .i64 p, .int .i64 s]] w fun e w' =>
    ∃ r : Int, e = .returned (.int .i64 r) ∧ (0 ≤ r ↔ (p, s) ∈ l) ∧ Below w.heap.size w w' := by
  have HE := hide h
  clear h
  have hbW : Below w.heap.size w (w.alloc (.cells #[.int .i64 p, .int .i64 s] 41)) := (Below.refl _ _).alloc (Nat.le_refl _) _
  go_enter Try.func157, Try.ntmps157
  go_wp2_with fail
  go_loopw [5, 8] (fun _ i wr => ∃ (k : Nat), k ≤ l.length ∧ i = .int .i64 k ∧ Hid (∀ j (_ : j < k) (hj : j < l.length), l[j] ≠ (p, s)) ∧ wr.cell? ⟨w.heap.size, 0, none⟩ = some (.int .i64 p) ∧ wr.cell? ⟨w.heap.size, 1, none⟩ = some (.int .i64 s) ∧ Below w.heap.size w wr) (fun _ i _ => l.length - (intOf i).toNat)
  case atStart => exact ⟨0, Nat.zero_le _, rfl, (fun j hj => by omega), by simp [go_sem], by simp [go_sem], hbW⟩
  case round =>
    obtain ⟨k, hk, rfl, hno, e0, e1, hb⟩ := hrel
    have hz := cell_lt e0
    by_cases hlt : k < l.length
    · obtain ⟨b, off, rfl, c0, c1⟩ := (EndsAt.later HE.out hb) k hlt
      have hki : (k : Int) < (l.length : Int) := by omega
      by_cases h1 : p = l[k].1
      · by_cases h2 : s = l[k].2
        · have hin : (p, s) ∈ l := by
            have : l[k] = (p, s) := Prod.ext h1.symm h2.symm
            rw [← this]; exact List.getElem_mem hlt
          have q1 : (p == l[k].1) = true := by rw [beq_iff_eq]; exact h1
          have q2 : (s == l[k].2) = true := by rw [beq_iff_eq]; exact h2
          have HIN := hide hin
          clear h1 h2 hin
          go_upto_region 4 with fail
          go_quiet (fail)
          have hq := hb.trans ((below_drewN (Below.refl wr.heap.size wr) nq).mono hb.size)
          go_wp2_with fail
          go_ret
          exact ⟨k, rfl, ⟨fun _ => HIN.out, fun _ => by omega⟩, hq⟩
        · have q2 : (s == l[k].2) = false := by rw [beq_eq_false_iff_ne]; exact h2
          have H2 := hide h2
          have q1 : (p == l[k].1) = true := by rw [beq_iff_eq]; exact h1
          clear h1 h2
          go_upto_region 4 with fail
          go_quiet (fail)
          have hq := hb.trans ((below_drewN (Below.refl wr.heap.size wr) nq).mono hb.size)
          go_wp2_with fail
          refine ⟨⟨k + 1, by omega, by go_num, ?_, e0, e1, hq⟩, by simp [intOf]; omega⟩
          intro j hj hj'
          by_cases e : j = k
          · subst e; exact fun h => H2.out (by rw [h])
          · exact hno.out j (by omega) hj'
      · have q1 : (p == l[k].1) = false := by rw [beq_eq_false_iff_ne]; exact h1
        have H1 := hide h1
        clear h1
        go_upto_region 4 with fail
        go_quiet (fail)
        have hq := hb.trans ((below_drewN (Below.refl wr.heap.size wr) nq).mono hb.size)
        go_wp2_with fail
        refine ⟨⟨k + 1, by omega, by go_num, ?_, e0, e1, hq⟩, by simp [intOf]; omega⟩
        intro j hj hj'
        by_cases e : j = k
        · subst e; exact fun h => H1.out (by rw [h])
        · exact hno.out j (by omega) hj'
    · obtain rfl : k = l.length := by omega
      go_wp2_with fail
      go_ret
      refine ⟨-1, rfl, ⟨fun h => by omega, fun h => ?_⟩, hb⟩
      obtain ⟨j, hj, he⟩ := List.getElem_of_mem h
      exact absurd he (hno.out j hj hj)

theorem containsE_any (a : Option Addr) (cap : Nat) (l : List (Int × Int)) (p s : Int) (w : World) (hl : l.length ≤ 1048576) (h : EndsAt w a l) :
    Calls Try.prog 139 #[.slice a l.length cap, .agg #[.int .i64 p, .int .i64 s]] w fun e w' =>
    e = .returned (.bool (decide ((p, s) ∈ l))) ∧ Below w.heap.size w w' := by
  have HE := hide h
  clear h
  have hbW : Below w.heap.size w (w.alloc (.cells #[.int .i64 p, .int .i64 s] 41)) := (Below.refl _ _).alloc (Nat.le_refl _) _
  go_enter Try.func139, Try.ntmps139
  go_wp2_with fail
  refine (indexE_any a cap l p s _ hl (HE.out.later hbW)).mono ?_
  rintro e w1 ⟨r, rfl, hr, hb⟩
  have hB := hbW.trans (hb.mono hbW.size)
  have HR := hide hr
  clear hr hb
  go_wp2_with fail
  go_ret
  exact ⟨ret_b (by rw [decide_eq_decide]; exact HR.out), hB⟩

theorem stepsOk_any (n : Nat) (a : Option Addr) (cap : Nat) (ss : List (Int × Int)) (w : World) (hn : n ≤ 1048576) (hl : ss.length ≤ 1048576) (h : EndsAt w a ss) :
    Calls Try.prog 126 #[.int .i64 n, .slice a ss.length cap] w fun e w' =>
    e = .returned (.bool (decide (ss.length ≤ 400) && ss.all (stepOk n))) ∧ Below w.heap.size w w' := by
  have HE := hide h
  clear h
  generalize hR : (decide (ss.length ≤ 400) && ss.all (stepOk n)) = R
  have HR := hide hR
  clear hR
  by_cases h4 : (400 : Int) < (ss.length : Int)
  · have H4 := hide h4
    have q4 : decide ((400 : Int) < (ss.length : Int)) = true := by rw [decide_eq_true_iff]; exact h4
    clear h4
    go_enter Try.func126, Try.ntmps126
    go_wp2_with fail
    go_ret
    refine ⟨?_, Below.refl _ _⟩
    have h4 := H4.out
    rw [← HR.out, decide_eq_false (by omega)]
    rfl
  · have q4 : decide ((400 : Int) < (ss.length : Int)) = false := by rw [decide_eq_false_iff_not]; exact h4
    have HL := hide (show ss.length ≤ 400 by omega)
    clear h4
    go_enter Try.func126, Try.ntmps126
    go_wp2_with fail
    go_loopw [6, 12] (fun _ i wr => ∃ (k : Nat), k ≤ ss.length ∧ i = .int .i64 k ∧ Hid (∀ j (_ : j < k) (hj : j < ss.length), stepOk n ss[j] = true) ∧ Below w.heap.size w wr) (fun _ i _ => ss.length - (intOf i).toNat)
    case atStart => exact ⟨0, Nat.zero_le _, rfl, (fun j hj => by omega), Below.refl _ _⟩
    case round =>
      obtain ⟨k, hk, rfl, hall, hb⟩ := hrel
      by_cases hlt : k < ss.length
      · obtain ⟨b, off, rfl, c0, c1⟩ := (EndsAt.later HE.out hb) k hlt
        have hki : (k : Int) < (ss.length : Int) := by omega
        have hblt := cell_lt c0
        have hA := hb.alloc hb.size (.cells #[.int .i64 ss[k].1, .int .i64 ss[k].2] 125)
        have HBAD := hide (show stepOk n ss[k] = false → R = false from fun h => by
          rw [← HR.out]
          have : ss.all (stepOk n) = false := by
            rw [List.all_eq_false]
            exact ⟨_, List.getElem_mem hlt, by rw [h]; simp⟩
          rw [this, Bool.and_false])
        have HOK := hide (show stepOk n ss[k] = (inR ss[k].1 0 ((n : Int) - 1) && (ss[k].2 == 1 || ss[k].2 == -1)) from rfl)
        generalize hs : ss[k] = s at *
        obtain ⟨q, y⟩ := s
        dsimp only at *
        have HS := hide hs
        clear hs
        cases h1 : inR q 0 ((n : Int) - 1)
        · have H1 := hide h1
          clear h1
          go_wp2_with fail
          refine (inRange_b H1.out _).mono ?_
          rintro e w1 ⟨rfl, rfl⟩
          go_wp2_with fail
          go_ret
          exact ⟨ret_b (HBAD.out (by rw [HOK.out, H1.out]; rfl)).symm, hA⟩
        · have H1 := hide h1
          clear h1
          by_cases hy1 : y = 1
          · subst hy1
            have HY := hide (show stepOk n (q, 1) = true by rw [HOK.out, H1.out]; rfl)
            go_wp2_with fail
            refine (inRange_b H1.out _).mono ?_
            rintro e w1 ⟨rfl, rfl⟩
            go_wp2_with fail
            refine ⟨⟨k + 1, by omega, by go_num, ?_, hA⟩, by simp [intOf]; omega⟩
            intro j hj hj'
            by_cases e : j = k
            · subst e; rw [HS.out]; exact HY.out
            · exact hall.out j (by omega) hj'
          · by_cases hy2 : y = -1
            · subst hy2
              have HY := hide (show stepOk n (q, -1) = true by rw [HOK.out, H1.out]; rfl)
              clear hy1
              go_wp2_with fail
              refine (inRange_b H1.out _).mono ?_
              rintro e w1 ⟨rfl, rfl⟩
              go_wp2_with fail
              refine ⟨⟨k + 1, by omega, by go_num, ?_, hA⟩, by simp [intOf]; omega⟩
              intro j hj hj'
              by_cases e : j = k
              · subst e; rw [HS.out]; exact HY.out
              · exact hall.out j (by omega) hj'
            · have q1 : (y != 1) = true := by rw [bne_iff_ne]; exact hy1
              have q2 : (y != -1) = true := by rw [bne_iff_ne]; exact hy2
              have HY := hide (show stepOk n (q, y) = false by
                rw [HOK.out, H1.out, Bool.true_and, Bool.or_eq_false_iff, beq_eq_false_iff_ne, beq_eq_false_iff_ne]
                exact ⟨hy1, hy2⟩)
              clear hy1 hy2
              go_wp2_with fail
              refine (inRange_b H1.out _).mono ?_
              rintro e w1 ⟨rfl, rfl⟩
              go_wp2_with fail
              go_ret
              exact ⟨ret_b (HBAD.out HY.out).symm, hA⟩
      · obtain rfl : k = ss.length := by omega
        go_wp2_with fail
        go_ret
        refine ⟨ret_b ?_, hb⟩
        rw [← HR.out, decide_eq_true HL.out, Bool.true_and]
        symm
        rw [List.all_eq_true]
        intro s hs
        obtain ⟨j, hj, rfl⟩ := List.getElem_of_mem hs
        exact hall.out j hj hj
end Go.Proofs.Ytplnppdlabpodaa
