/- Step.to, Step.from, slices.Contains at ends, stepsOk. Own work. -/
import Derived.Test.YtijdigdcmjdooaaGreatMxAK
import Derived.Test.YtijdigdcmjdooaaGreatMxAL
import Derived.BigQuiet
import Derived.Deep.RegionHeld3
namespace Go.Proofs.YtijdigdcmjdooaaGreat
open Go.RowKit
set_option maxHeartbeats 2000000

theorem res2_later {w w1 : World} {c1 c2 : Array Value} {T1 T2 : TypeId} (hb : Below ((w.alloc (.cells c1 T1)).alloc (.cells c2 T2)).heap.size ((w.alloc (.cells c1 T1)).alloc (.cells c2 T2)) w1) (i : Nat) (v : Value) (h : c2[i]? = some v) : w1.cell? ⟨w.heap.size + 1, i, none⟩ = some v ∧ w1.frozen? ⟨w.heap.size + 1, i, none⟩ = false := by
  have h1 := box_cell (w := w.alloc (.cells c1 T1)) hb i v h
  have h2 := box_frozen (w := w.alloc (.cells c1 T1)) hb i
  rw [World.size_alloc] at h1 h2
  exact ⟨h1, h2⟩

theorem stepTo_any (q wy : Int) (w : World) (hwy : wy = 1 ∨ wy = -1) :
    Calls Tryz.prog 130 #[.agg #[.int .i64 q, .int .i64 wy]] w fun e w' => e = .returned (.agg #[.int .i64 (headP q wy).1, .int .i64 (headP q wy).2]) ∧ Below w.heap.size w w' := by
  have hbW : Below w.heap.size w ((w.alloc (.cells #[.int .i64 q, .int .i64 wy] 132)).alloc (.cells #[.int .i64 0, .int .i64 0] 92)) := ((Below.refl _ _).alloc (Nat.le_refl _) _).alloc (by simp) _
  go_enter Tryz.func130, Tryz.ntmps130
  go_wp2_with fail
  refine (facing_any q 0 wy _ hwy).mono ?_
  rintro e w1 ⟨rfl, hb⟩
  have hB := hbW.trans (hb.mono hbW.size)
  obtain ⟨y0, f0⟩ := res2_later hb 0 _ rfl
  obtain ⟨y1, f1⟩ := res2_later hb 1 _ rfl
  clear hb
  generalize hh : headP q wy = h
  have HH := hide hh
  clear hh
  go_wp2_with fail
  exact bodyPost_ret (v := .agg #[.int .i64 h.1, .int .i64 h.2]) (by simp [results, Tryz.results130, go_sem, y0, y1]) rfl ⟨by rw [HH.out], (hB.setCell (by show w.heap.size ≤ w.heap.size + 1; omega) _).setCell (by show w.heap.size ≤ w.heap.size + 1; omega) _⟩

theorem stepFrom_any (q wy : Int) (w : World) (hwy : wy = 1 ∨ wy = -1) :
    Calls Tryz.prog 102 #[.agg #[.int .i64 q, .int .i64 wy]] w fun e w' => e = .returned (.agg #[.int .i64 (headP q (-wy)).1, .int .i64 (headP q (-wy)).2]) ∧ Below w.heap.size w w' := by
  have hbW : Below w.heap.size w ((w.alloc (.cells #[.int .i64 q, .int .i64 wy] 132)).alloc (.cells #[.int .i64 0, .int .i64 0] 92)) := ((Below.refl _ _).alloc (Nat.le_refl _) _).alloc (by simp) _
  rcases hwy with rfl | rfl
  all_goals
    go_enter Tryz.func102, Tryz.ntmps102
    go_wp2_with fail
    refine (facing_any q 0 _ _ (by omega)).mono ?_
    rintro e w1 ⟨rfl, hb⟩
    have hB := hbW.trans (hb.mono hbW.size)
    obtain ⟨y0, f0⟩ := res2_later hb 0 _ rfl
    obtain ⟨y1, f1⟩ := res2_later hb 1 _ rfl
    clear hb
    generalize hh : headP q _ = h
    have HH := hide hh
    clear hh
    go_wp2_with fail
    exact bodyPost_ret (v := .agg #[.int .i64 h.1, .int .i64 h.2]) (by simp [results, Tryz.results102, go_sem, y0, y1]) rfl ⟨by first | (rw [← HH.out]; rfl) | rw [← HH.out], (hB.setCell (by show w.heap.size ≤ w.heap.size + 1; omega) _).setCell (by show w.heap.size ≤ w.heap.size + 1; omega) _⟩

theorem indexE_any (a : Option Addr) (cap : Nat) (l : List (Int × Int)) (p s : Int) (w : World) (hl : l.length ≤ 1048576) (h : EndsAt w a l) :
    Calls Tryz.prog 142 #[.slice a l.length cap, .agg #[.int .i64 p, .int .i64 s]] w fun e w' =>
    ∃ r : Int, e = .returned (.int .i64 r) ∧ (0 ≤ r ↔ (p, s) ∈ l) ∧ Below w.heap.size w w' := by
  have HE := hide h
  clear h
  have hbW : Below w.heap.size w (w.alloc (.cells #[.int .i64 p, .int .i64 s] 92)) := (Below.refl _ _).alloc (Nat.le_refl _) _
  go_enter Tryz.func142, Tryz.ntmps142
  go_wp2_with fail
  go_loopw [5, 8] (fun _ i wr => ∃ (k : Nat), k ≤ l.length ∧ i = .int .i64 k ∧ Hid (∀ j (_ : j < k) (hj : j < l.length), l[j] ≠ (p, s)) ∧ wr.cell? ⟨w.heap.size, 0, none⟩ = some (.int .i64 p) ∧ wr.cell? ⟨w.heap.size, 1, none⟩ = some (.int .i64 s) ∧ Below w.heap.size w wr) (fun _ i _ => l.length - (intOf i).toNat)
  case atStart => exact ⟨0, Nat.zero_le _, rfl, (fun j hj => by omega), by simp [go_sem], by simp [go_sem], hbW⟩
  case round =>
    obtain ⟨k, hk, rfl, hno, e0, e1, hb⟩ := hrel
    have hz := cell_lt e0
    by_cases hlt : k < l.length
    · obtain ⟨b, off, rfl, c0, c1⟩ := (EndsAt.later HE.out hb) k hlt
      have hki : (k : Int) < (l.length : Int) := by omega
      by_cases h1 : p = l[k].1
      · by_cases h2 : s = l[k].2
        · have hin : (p, s) ∈ l := by
            have : l[k] = (p, s) := Prod.ext h1.symm h2.symm
            rw [← this]; exact List.getElem_mem hlt
          have q1 : (p == l[k].1) = true := by rw [beq_iff_eq]; exact h1
          have q2 : (s == l[k].2) = true := by rw [beq_iff_eq]; exact h2
          have HIN := hide hin
          clear h1 h2 hin
          go_upto_region 4 with fail
          go_quiet (fail)
          have hq := hb.trans ((below_drewN (Below.refl wr.heap.size wr) nq).mono hb.size)
          go_wp2_with fail
          go_ret
          exact ⟨k, rfl, ⟨fun _ => HIN.out, fun _ => by omega⟩, hq⟩
        · have q2 : (s == l[k].2) = false := by rw [beq_eq_false_iff_ne]; exact h2
          have H2 := hide h2
          have q1 : (p == l[k].1) = true := by rw [beq_iff_eq]; exact h1
          clear h1 h2
          go_upto_region 4 with fail
          go_quiet (fail)
          have hq := hb.trans ((below_drewN (Below.refl wr.heap.size wr) nq).mono hb.size)
          go_wp2_with fail
          refine ⟨⟨k + 1, by omega, by go_num, ?_, e0, e1, hq⟩, by simp [intOf]; omega⟩
          intro j hj hj'
          by_cases e : j = k
          · subst e; exact fun h => H2.out (by rw [h])
          · exact hno.out j (by omega) hj'
      · have q1 : (p == l[k].1) = false := by rw [beq_eq_false_iff_ne]; exact h1
        have H1 := hide h1
        clear h1
        go_upto_region 4 with fail
        go_quiet (fail)
        have hq := hb.trans ((below_drewN (Below.refl wr.heap.size wr) nq).mono hb.size)
        go_wp2_with fail
        refine ⟨⟨k + 1, by omega, by go_num, ?_, e0, e1, hq⟩, by simp [intOf]; omega⟩
        intro j hj hj'
        by_cases e : j = k
        · subst e; exact fun h => H1.out (by rw [h])
        · exact hno.out j (by omega) hj'
    · obtain rfl : k = l.length := by omega
      go_wp2_with fail
      go_ret
      refine ⟨-1, rfl, ⟨fun h => by omega, fun h => ?_⟩, hb⟩
      obtain ⟨j, hj, he⟩ := List.getElem_of_mem h
      exact absurd he (hno.out j hj hj)

theorem containsE_any (a : Option Addr) (cap : Nat) (l : List (Int × Int)) (p s : Int) (w : World) (hl : l.length ≤ 1048576) (h : EndsAt w a l) :
    Calls Tryz.prog 131 #[.slice a l.length cap, .agg #[.int .i64 p, .int .i64 s]] w fun e w' =>
    e = .returned (.bool (decide ((p, s) ∈ l))) ∧ Below w.heap.size w w' := by
  have HE := hide h
  clear h
  have hbW : Below w.heap.size w (w.alloc (.cells #[.int .i64 p, .int .i64 s] 92)) := (Below.refl _ _).alloc (Nat.le_refl _) _
  go_enter Tryz.func131, Tryz.ntmps131
  go_wp2_with fail
  refine (indexE_any a cap l p s _ hl (HE.out.later hbW)).mono ?_
  rintro e w1 ⟨r, rfl, hr, hb⟩
  have hB := hbW.trans (hb.mono hbW.size)
  have HR := hide hr
  clear hr hb
  go_wp2_with fail
  go_ret
  exact ⟨ret_b (by rw [decide_eq_decide]; exact HR.out), hB⟩

theorem stepsOk_any (n : Nat) (a : Option Addr) (cap : Nat) (ss : List (Int × Int)) (w : World) (hn : n ≤ 1048576) (hl : ss.length ≤ 1048576) (h : EndsAt w a ss) :
    Calls Tryz.prog 103 #[.int .i64 n, .slice a ss.length cap] w fun e w' =>
    e = .returned (.bool (decide (ss.length ≤ 400) && ss.all (stepOk n))) ∧ Below w.heap.size w w' := by
  have HE := hide h
  clear h
  generalize hR : (decide (ss.length ≤ 400) && ss.all (stepOk n)) = R
  have HR := hide hR
  clear hR
  by_cases h4 : (400 : Int) < (ss.length : Int)
  · have H4 := hide h4
    have q4 : decide ((400 : Int) < (ss.length : Int)) = true := by rw [decide_eq_true_iff]; exact h4
    clear h4
    go_enter Tryz.func103, Tryz.ntmps103
    go_wp2_with fail
    go_ret
    refine ⟨?_, Below.refl _ _⟩
    have h4 := H4.out
    rw [← HR.out, decide_eq_false (by omega)]
    rfl
  · have q4 : decide ((400 : Int) < (ss.length : Int)) = false := by rw [decide_eq_false_iff_not]; exact h4
    have HL := hide (show ss.length ≤ 400 by omega)
    clear h4
    go_enter Tryz.func103, Tryz.ntmps103
    go_wp2_with fail
    go_loopw [6, 12] (fun _ i wr => ∃ (k : Nat), k ≤ ss.length ∧ i = .int .i64 k ∧ Hid (∀ j (_ : j < k) (hj : j < ss.length), stepOk n ss[j] = true) ∧ Below w.heap.size w wr) (fun _ i _ => ss.length - (intOf i).toNat)
    case atStart => exact ⟨0, Nat.zero_le _, rfl, (fun j hj => by omega), Below.refl _ _⟩
    case round =>
      obtain ⟨k, hk, rfl, hall, hb⟩ := hrel
      by_cases hlt : k < ss.length
      · obtain ⟨b, off, rfl, c0, c1⟩ := (EndsAt.later HE.out hb) k hlt
        have hki : (k : Int) < (ss.length : Int) := by omega
        have hblt := cell_lt c0
        have hA := hb.alloc hb.size (.cells #[.int .i64 ss[k].1, .int .i64 ss[k].2] 132)
        have HBAD := hide (show stepOk n ss[k] = false → R = false from fun h => by
          rw [← HR.out]
          have : ss.all (stepOk n) = false := by
            rw [List.all_eq_false]
            exact ⟨_, List.getElem_mem hlt, by rw [h]; simp⟩
          rw [this, Bool.and_false])
        have HOK := hide (show stepOk n ss[k] = (inR ss[k].1 0 ((n : Int) - 1) && (ss[k].2 == 1 || ss[k].2 == -1)) from rfl)
        generalize hs : ss[k] = s at *
        obtain ⟨q, y⟩ := s
        dsimp only at *
        have HS := hide hs
        clear hs
        cases h1 : inR q 0 ((n : Int) - 1)
        · have H1 := hide h1
          clear h1
          go_wp2_with fail
          refine (inRange_b H1.out _).mono ?_
          rintro e w1 ⟨rfl, rfl⟩
          go_wp2_with fail
          go_ret
          exact ⟨ret_b (HBAD.out (by rw [HOK.out, H1.out]; rfl)).symm, hA⟩
        · have H1 := hide h1
          clear h1
          by_cases hy1 : y = 1
          · subst hy1
            have HY := hide (show stepOk n (q, 1) = true by rw [HOK.out, H1.out]; rfl)
            go_wp2_with fail
            refine (inRange_b H1.out _).mono ?_
            rintro e w1 ⟨rfl, rfl⟩
            go_wp2_with fail
            refine ⟨⟨k + 1, by omega, by go_num, ?_, hA⟩, by simp [intOf]; omega⟩
            intro j hj hj'
            by_cases e : j = k
            · subst e; rw [HS.out]; exact HY.out
            · exact hall.out j (by omega) hj'
          · by_cases hy2 : y = -1
            · subst hy2
              have HY := hide (show stepOk n (q, -1) = true by rw [HOK.out, H1.out]; rfl)
              clear hy1
              go_wp2_with fail
              refine (inRange_b H1.out _).mono ?_
              rintro e w1 ⟨rfl, rfl⟩
              go_wp2_with fail
              refine ⟨⟨k + 1, by omega, by go_num, ?_, hA⟩, by simp [intOf]; omega⟩
              intro j hj hj'
              by_cases e : j = k
              · subst e; rw [HS.out]; exact HY.out
              · exact hall.out j (by omega) hj'
            · have q1 : (y != 1) = true := by rw [bne_iff_ne]; exact hy1
              have q2 : (y != -1) = true := by rw [bne_iff_ne]; exact hy2
              have HY := hide (show stepOk n (q, y) = false by
                rw [HOK.out, H1.out, Bool.true_and, Bool.or_eq_false_iff, beq_eq_false_iff_ne, beq_eq_false_iff_ne]
                exact ⟨hy1, hy2⟩)
              clear hy1 hy2
              go_wp2_with fail
              refine (inRange_b H1.out _).mono ?_
              rintro e w1 ⟨rfl, rfl⟩
              go_wp2_with fail
              go_ret
              exact ⟨ret_b (HBAD.out HY.out).symm, hA⟩
      · obtain rfl : k = ss.length := by omega
        go_wp2_with fail
        go_ret
        refine ⟨ret_b ?_, hb⟩
        rw [← HR.out, decide_eq_true HL.out, Bool.true_and]
        symm
        rw [List.all_eq_true]
        intro s hs
        obtain ⟨j, hj, rfl⟩ := List.getElem_of_mem hs
        exact hall.out j hj hj
end Go.Proofs.YtijdigdcmjdooaaGreat

/- layoutOf, between. Own work. -/
namespace Go.Proofs.YtijdigdcmjdooaaGreat
open Go.RowKit
set_option maxHeartbeats 4000000

/-- The box of a net, as it lies. -/
abbrev LY (w wx : World) (v0 v1 : Value) : Prop := (wx.cell? ⟨w.heap.size, 0, none⟩ = some v0 ∧ wx.cell? ⟨w.heap.size, 1, none⟩ = some v1) ∧ Hid (Below w.heap.size w wx)
theorem keepY {w w2 w3 : World} {v0 v1 : Value} (hb : Below w2.heap.size w2 w3) (h : LY w w2 v0 v1) : LY w w3 v0 v1 :=
  ⟨⟨cell_later' hb h.1.1, cell_later' hb h.1.2⟩, h.2.out.trans (hb.mono h.2.out.size)⟩
theorem putY {w w2 : World} {v0 v1 : Value} {b : Nat} (hb : w.heap.size < b) (h : LY w w2 v0 v1) (x y z : Value) : LY w (((w2.setCell ⟨b, 0, none⟩ x).setCell ⟨b, 1, none⟩ y).setCell ⟨b, 2, none⟩ z) v0 v1 := by
  have e : ∀ (W : World) (o : Nat) (v : Value) (i : Nat) (u : Value), W.cell? ⟨w.heap.size, i, none⟩ = some u → (W.setCell ⟨b, o, none⟩ v).cell? ⟨w.heap.size, i, none⟩ = some u := fun W o v i u hu => by
    rw [World.cell?_setCell_far W ⟨b, o, none⟩ ⟨w.heap.size, i, none⟩ v (by show b ≠ w.heap.size; omega)]; exact hu
  exact ⟨⟨e _ _ _ _ _ (e _ _ _ _ _ (e _ _ _ _ _ h.1.1)), e _ _ _ _ _ (e _ _ _ _ _ (e _ _ _ _ _ h.1.2))⟩, ((h.2.out.setCell (by show w.heap.size ≤ b; omega) _).setCell (by show w.heap.size ≤ b; omega) _).setCell (by show w.heap.size ≤ b; omega) _⟩

theorem se_set3 {w : World} {b m n : Nat} {G : Int × Int → Option (Int × Int × Int)} (h : SE w m n G) (hne : m ≠ b) (x y z : Value) : SE (((w.setCell ⟨b, 0, none⟩ x).setCell ⟨b, 1, none⟩ y).setCell ⟨b, 2, none⟩ z) m n G :=
  ((h.of_block (Below.heap_setCell _ _ _ _ hne)).of_block (Below.heap_setCell _ _ _ _ hne)).of_block (Below.heap_setCell _ _ _ _ hne)

theorem layoutOf_any (a a' : Option Addr) (N : Nt) (cap cap' : Nat) (w : World) (hl : N.jts.length ≤ 1048576) (hm : ∀ j ∈ N.jts, j.ends.length ≤ 1048576) (hw : ∀ j ∈ N.jts, ∀ e ∈ j.ends, Wf2 e) (hj : JtsAt w a' N.jts) :
    Calls Tryz.prog 27 #[.agg #[.slice a N.pcs.length cap, .slice a' N.jts.length cap']] w fun e w' =>
    ∃ m n, e = .returned (.agg #[.slice a N.pcs.length cap, .slice a' N.jts.length cap', .map (some m)]) ∧ SE w' m n (seatTo N.jts N.jts.length) ∧ w.heap.size ≤ m ∧ Below w.heap.size w w' := by
  have HJ := hide hj
  have HM := hide hm
  have HW := hide hw
  clear hj hm hw
  have hbW : Below w.heap.size w ((w.alloc (.cells #[.slice a N.pcs.length cap, .slice a' N.jts.length cap'] 26)).alloc (.cells #[.slice none 0 0, .slice none 0 0, .map none] 70)) := ((Below.refl _ _).alloc (Nat.le_refl _) _).alloc (by simp) _
  have HL1 : Hid (LY w ((w.alloc (.cells #[.slice a N.pcs.length cap, .slice a' N.jts.length cap'] 26)).alloc (.cells #[.slice none 0 0, .slice none 0 0, .map none] 70)) (.slice a N.pcs.length cap) (.slice a' N.jts.length cap')) := ⟨⟨by simp [go_sem], by simp [go_sem]⟩, hbW⟩
  have y := fun i v h => new_cell (w.alloc (.cells #[.slice a N.pcs.length cap, .slice a' N.jts.length cap'] 26)) #[.slice none 0 0, .slice none 0 0, .map none] 70 i v h
  have y0 := y 0 _ rfl
  have y1 := y 1 _ rfl
  have y2 := y 2 _ rfl
  have f : ∀ i, ((w.alloc (.cells #[.slice a N.pcs.length cap, .slice a' N.jts.length cap'] 26)).alloc (.cells #[.slice none 0 0, .slice none 0 0, .map none] 70)).frozen? ⟨w.heap.size + 1, i, none⟩ = false := fun i => by simp [go_sem]
  rw [World.size_alloc] at y0 y1 y2
  have HY := hide (And.intro y0 (And.intro y1 (And.intro y2 f)))
  clear hbW y y0 y1 y2 f
  go_enter Tryz.func27, Tryz.ntmps27
  go_upto_region 1 with fail
  generalize ((w.alloc (.cells #[.slice a N.pcs.length cap, .slice a' N.jts.length cap'] 26)).alloc (.cells #[.slice none 0 0, .slice none 0 0, .map none] 70)) = w1 at *
  have h1 := (heldB HL1.out).size
  have hlt1 := cell_lt HY.out.1
  go_region_held3 (fun w' => LY w w' (.slice a N.pcs.length cap) (.slice a' N.jts.length cap'))
    (first
      | (exact keepY ((Below.refl w1.heap.size w1).drew) HL1.out)
      | (exact HL2.out)
      | (exact putY (by omega) HL2.out _ _ _))
    (first
      | (go_at_call 57; refine (seatsOf_any a' cap' N.jts _ hl HM.out HW.out (HJ.out.later (heldB (keepY ((Below.refl w1.heap.size w1).drew) HL1.out)))).mono ?_; rintro e w2 ⟨rfl, ⟨mm, hSE⟩, hb2⟩; have HL2 := hide (keepY hb2 (keepY ((Below.refl w1.heap.size w1).drew) HL1.out)); have HSE := hide hSE; have y0 := cell_later' (((Below.refl w1.heap.size w1).drew).trans hb2) HY.out.1; have y1 := cell_later' (((Below.refl w1.heap.size w1).drew).trans hb2) HY.out.2.1; have y2 := cell_later' (((Below.refl w1.heap.size w1).drew).trans hb2) HY.out.2.2.1; have f0 := frozen_later (((Below.refl w1.heap.size w1).drew).trans hb2) HY.out.1 (HY.out.2.2.2 0); have f1 := frozen_later (((Below.refl w1.heap.size w1).drew).trans hb2) HY.out.2.1 (HY.out.2.2.2 1); have f2 := frozen_later (((Below.refl w1.heap.size w1).drew).trans hb2) HY.out.2.2.1 (HY.out.2.2.2 2); clear hSE))
  have HB2 := hide (heldB HL2.out)
  clear HL2
  go_wp2_with fail
  refine bodyPost_ret (v := .agg #[.slice a N.pcs.length cap, .slice a' N.jts.length cap', .map (some w1.heap.size)]) (by simp [results, Tryz.results27, go_sem, y0, y1, y2]) rfl ⟨_, mm, rfl, ?_, h1, ?_⟩
  · exact se_set3 (by have h := HSE.out; simp only [World.size_drew] at h; exact h) (by omega) _ _ _
  · exact ((HB2.out.setCell (by show w.heap.size ≤ w.heap.size + 1; omega) _).setCell (by show w.heap.size ≤ w.heap.size + 1; omega) _).setCell (by show w.heap.size ≤ w.heap.size + 1; omega) _

/-- The layout's and the first step's boxes, as they lie, and what is looked up. -/
abbrev BS (w0 wx : World) (B m : Nat) (q wy hx hy : Int) (sv : Value) : Prop :=
  (wx.cell? ⟨B, 2, none⟩ = some (.map (some m)) ∧ wx.cell? ⟨B + 1, 0, none⟩ = some (.int .i64 q) ∧ wx.cell? ⟨B + 1, 1, none⟩ = some (.int .i64 wy) ∧ (Instr.lookup 68 (.map (some m)) (.agg #[.int .i64 hx, .int .i64 hy]) false).run Tryz.prog wx = .ok sv wx) ∧ Hid (Below w0.heap.size w0 wx)
theorem bs_of {w0 : World} {B m n : Nat} {js : List Jt} {q wy : Int} (hSE : SE w0 m n (seatTo js js.length)) (c2 : w0.cell? ⟨B, 2, none⟩ = some (.map (some m))) (d0 : w0.cell? ⟨B + 1, 0, none⟩ = some (.int .i64 q)) (d1 : w0.cell? ⟨B + 1, 1, none⟩ = some (.int .i64 wy)) {hx hy x y z : Int} (hw : Wf2 (hx, hy)) (ht : (seatTo js js.length (hx, hy)).getD (0, 0, 0) = (x, y, z)) {wx : World} (hb : Below w0.heap.size w0 wx) :
    BS w0 wx B m q wy hx hy (.agg #[.int .i64 x, .int .i64 y, .int .i64 z]) := by
  refine ⟨⟨cell_later' hb c2, cell_later' hb d0, cell_later' hb d1, ?_⟩, hb⟩
  rw [(hSE.of_block (hb.block m hSE.lt)).look hx hy hw, ht]
  rfl
theorem keepBS {w0 w2 w3 : World} {B m : Nat} {q wy hx hy : Int} {sv : Value} (hall : ∀ wx, Below w0.heap.size w0 wx → BS w0 wx B m q wy hx hy sv) (hb : Below w2.heap.size w2 w3) (h : BS w0 w2 B m q wy hx hy sv) : BS w0 w3 B m q wy hx hy sv :=
  hall w3 (h.2.out.trans (hb.mono h.2.out.size))
theorem keepBS3 {w0 w2 : World} {B m : Nat} {q wy hx hy : Int} {sv : Value} (hall : ∀ wx, Below w0.heap.size w0 wx → BS w0 wx B m q wy hx hy sv) {b : Nat} (hb : w0.heap.size ≤ b) (h : BS w0 w2 B m q wy hx hy sv) (x y z : Value) : BS w0 (((w2.setCell ⟨b, 0, none⟩ x).setCell ⟨b, 1, none⟩ y).setCell ⟨b, 2, none⟩ z) B m q wy hx hy sv :=
  hall _ (((h.2.out.setCell hb _).setCell hb _).setCell hb _)
theorem stepTo_at {q wy hx hy : Int} (hwy : wy = 1 ∨ wy = -1) (hH : headP q wy = (hx, hy)) (w : World) :
    Calls Tryz.prog 130 #[.agg #[.int .i64 q, .int .i64 wy]] w fun e w' => e = .returned (.agg #[.int .i64 hx, .int .i64 hy]) ∧ Below w.heap.size w w' := (stepTo_any q wy w hwy).mono fun _ _ h => ⟨by rw [h.1, hH], h.2⟩
theorem stepFrom_at {q wy hx hy : Int} (hwy : wy = 1 ∨ wy = -1) (hH : headP q (-wy) = (hx, hy)) (w : World) :
    Calls Tryz.prog 102 #[.agg #[.int .i64 q, .int .i64 wy]] w fun e w' => e = .returned (.agg #[.int .i64 hx, .int .i64 hy]) ∧ Below w.heap.size w w' := (stepFrom_any q wy w hwy).mono fun _ _ h => ⟨by rw [h.1, hH], h.2⟩

/-- What between tells. -/
def BtwQ (N : Nt) (s t : Int × Int) (w : World) (e : Ending) (w' : World) : Prop :=
  ((wantP N s t = none ∧ e = .returned (.tuple #[.agg #[.int .i64 0, .int .i64 0], .bool false])) ∨
   ∃ (j : Nat) (l : Int) (hj : j < N.jts.length), wantP N s t = some (j, l) ∧ (N.jts[j].kind = 3 → ¬ l = 0) ∧ (¬ l = 0 → N.jts[j].kind = 3) ∧ 0 ≤ l ∧ l ≤ 2 ∧ e = .returned (.tuple #[.agg #[.int .i64 j, .int .i64 l], .bool true])) ∧ Below w.heap.size w w'

/-- What the test of between reads. -/
abbrev B3 (w1 wx : World) (b9 B5 : Nat) (k : Int) (nm : ByteArray) (es : Value) (b8 : Nat) (i t1 t2 : Int) : Prop :=
  ((wx.cell? ⟨b9, 0, none⟩ = some (.int .i64 k) ∧ wx.cell? ⟨b9, 1, none⟩ = some (.string nm) ∧ wx.cell? ⟨b9, 2, none⟩ = some es) ∧ wx.cell? ⟨b8, 1, none⟩ = some (.int .i64 i) ∧ wx.cell? ⟨B5, 0, none⟩ = some (.int .i64 t1) ∧ wx.cell? ⟨B5, 1, none⟩ = some (.int .i64 t2)) ∧ Hid (Below w1.heap.size w1 wx)
theorem keepB3 {w1 w2 w3 : World} {b9 B5 : Nat} {k : Int} {nm : ByteArray} {es : Value} {b8 : Nat} {i t1 t2 : Int} (hb : Below w2.heap.size w2 w3) (h : B3 w1 w2 b9 B5 k nm es b8 i t1 t2) : B3 w1 w3 b9 B5 k nm es b8 i t1 t2 :=
  ⟨⟨⟨cell_later' hb h.1.1.1, cell_later' hb h.1.1.2.1, cell_later' hb h.1.1.2.2⟩, cell_later' hb h.1.2.1, cell_later' hb h.1.2.2.1, cell_later' hb h.1.2.2.2⟩, h.2.out.trans (hb.mono h.2.out.size)⟩

/-- What the last statement of between reads. -/
abbrev B7 (w wx : World) (b8 m : Nat) (j i : Nat) (t1 t2 fx fy : Int) (sv : Value) : Prop :=
  (wx.cell? ⟨b8, 0, none⟩ = some (.int .i64 j) ∧ wx.cell? ⟨b8, 1, none⟩ = some (.int .i64 i) ∧ wx.cell? ⟨w.heap.size, 2, none⟩ = some (.map (some m)) ∧ wx.cell? ⟨w.heap.size + 1 + 1, 0, none⟩ = some (.int .i64 t1) ∧ wx.cell? ⟨w.heap.size + 1 + 1, 1, none⟩ = some (.int .i64 t2) ∧ (Instr.lookup 68 (.map (some m)) (.agg #[.int .i64 fx, .int .i64 fy]) false).run Tryz.prog wx = .ok sv wx) ∧ Hid (Below w.heap.size w wx)
theorem look7 {w : World} {m n : Nat} {js : List Jt} (hSE : SE w m n (seatTo js js.length)) {fx fy x y z : Int} (hw : Wf2 (fx, fy)) (ht : (seatTo js js.length (fx, fy)).getD (0, 0, 0) = (x, y, z)) {wx : World} (hb : Below w.heap.size w wx) :
    (Instr.lookup 68 (.map (some m)) (.agg #[.int .i64 fx, .int .i64 fy]) false).run Tryz.prog wx = .ok (.agg #[.int .i64 x, .int .i64 y, .int .i64 z]) wx := by
  rw [(hSE.of_block (hb.block m hSE.lt)).look fx fy hw, ht]
  rfl
theorem keepB7 {w w2 w3 : World} {b8 m : Nat} {j i : Nat} {t1 t2 fx fy : Int} {sv : Value} (hall : ∀ wx, Below w.heap.size w wx → (Instr.lookup 68 (.map (some m)) (.agg #[.int .i64 fx, .int .i64 fy]) false).run Tryz.prog wx = .ok sv wx) (hb : Below w2.heap.size w2 w3) (h : B7 w w2 b8 m j i t1 t2 fx fy sv) : B7 w w3 b8 m j i t1 t2 fx fy sv :=
  have h3 := h.2.out.trans (hb.mono h.2.out.size)
  ⟨⟨cell_later' hb h.1.1, cell_later' hb h.1.2.1, cell_later' hb h.1.2.2.1, cell_later' hb h.1.2.2.2.1, cell_later' hb h.1.2.2.2.2.1, hall _ h3⟩, h3⟩
theorem putB7 {w w2 : World} {b8 m : Nat} {j i : Nat} {t1 t2 fx fy : Int} {sv : Value} (hall : ∀ wx, Below w.heap.size w wx → (Instr.lookup 68 (.map (some m)) (.agg #[.int .i64 fx, .int .i64 fy]) false).run Tryz.prog wx = .ok sv wx) (h8 : w.heap.size + 1 + 1 + 1 < b8) (h : B7 w w2 b8 m j i t1 t2 fx fy sv) (x y : Value) : B7 w ((w2.setCell ⟨w.heap.size + 1 + 1 + 1, 0, none⟩ x).setCell ⟨w.heap.size + 1 + 1 + 1, 1, none⟩ y) b8 m j i t1 t2 fx fy sv := by
  have e : ∀ (W : World) (o : Nat) (v : Value) (b i : Nat) (u : Value), w.heap.size + 1 + 1 + 1 ≠ b → W.cell? ⟨b, i, none⟩ = some u → (W.setCell ⟨w.heap.size + 1 + 1 + 1, o, none⟩ v).cell? ⟨b, i, none⟩ = some u := fun W o v b i u hb hu => by
    rw [World.cell?_setCell_far W ⟨w.heap.size + 1 + 1 + 1, o, none⟩ ⟨b, i, none⟩ v hb]; exact hu
  have h3 : Below w.heap.size w ((w2.setCell ⟨w.heap.size + 1 + 1 + 1, 0, none⟩ x).setCell ⟨w.heap.size + 1 + 1 + 1, 1, none⟩ y) := (h.2.out.setCell (by show w.heap.size ≤ w.heap.size + 1 + 1 + 1; omega) _).setCell (by show w.heap.size ≤ w.heap.size + 1 + 1 + 1; omega) _
  exact ⟨⟨e _ _ _ _ _ _ (by omega) (e _ _ _ _ _ _ (by omega) h.1.1), e _ _ _ _ _ _ (by omega) (e _ _ _ _ _ _ (by omega) h.1.2.1), e _ _ _ _ _ _ (by omega) (e _ _ _ _ _ _ (by omega) h.1.2.2.1), e _ _ _ _ _ _ (by omega) (e _ _ _ _ _ _ (by omega) h.1.2.2.2.1), e _ _ _ _ _ _ (by omega) (e _ _ _ _ _ _ (by omega) h.1.2.2.2.2.1), hall _ h3⟩, h3⟩
end Go.Proofs.YtijdigdcmjdooaaGreat
