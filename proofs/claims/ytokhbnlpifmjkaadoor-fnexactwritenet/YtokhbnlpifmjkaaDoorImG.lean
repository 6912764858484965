import Derived.Test.YtokhbnlpifmjkaaDoorImF
import Derived.Test.YtokhbnlpifmjkaaDoorSpA
namespace Go.Proofs.YtokhbnlpifmjkaaDoor
open Go.RowKit
set_option maxHeartbeats 1000000

theorem wf_small {x : Int} (h0 : -1048576 ≤ x) (h1 : x ≤ 1048576) : (Lit.int .i64 x).wf = true := by
  simp [Lit.wf, IntKind.min, IntKind.max, IntKind.signed, IntKind.bits]; omega

theorem wf_zero : (Lit.int .i64 0).wf = true := by decide
theorem wf_one : (Lit.int .i64 1).wf = true := by decide

theorem times_ends (g : Int × Int → Option (Int × Int × Int)) (j : Int) (es : List (Int × Int)) (e : Int × Int) (i : Nat) (hi : i ≤ es.length) : times (seatEnds g j es i) e = times g e + ((es.take i).count e : Int) := by
  induction i with
  | zero => simp [seatEnds]
  | succ i ih =>
    rw [seatEnds_succ (by omega), count_snoc es i (by omega)]
    have h := ih (by omega)
    by_cases he : e = es[i]
    · have h2 : times (seatAdd (seatEnds g j es i) es[i] j i) e = times (seatEnds g j es i) e + 1 := by
        unfold times seatAdd; rw [if_pos he, he]; rfl
      rw [h2, h, if_pos he.symm]; omega
    · have h2 : times (seatAdd (seatEnds g j es i) es[i] j i) e = times (seatEnds g j es i) e := by
        unfold times seatAdd; rw [if_neg he]
      rw [h2, h, if_neg (fun h => he h.symm)]; omega

theorem times_to (js : List Jt) (e : Int × Int) (k : Nat) (hk : k ≤ js.length) : times (seatTo js k) e = (uses (js.take k) e : Int) := by
  induction k with
  | zero => simp [times, seatTo, uses, allEnds]
  | succ k ih =>
    rw [seatTo_succ (by omega), times_ends _ _ _ _ _ (Nat.le_refl _), ih (by omega), List.take_length, uses_snoc js k (by omega)]
    omega

theorem times_all (js : List Jt) (e : Int × Int) : times (seatTo js js.length) e = (uses js e : Int) := by
  rw [times_to js e _ (Nat.le_refl _), List.take_length]

theorem endOk_wf {n : Nat} (hn : n ≤ 1048576) {e : Int × Int} (h : endOk n e = true) : Wf2 e := by
  simp [endOk, inR] at h
  exact ⟨wf_small (by omega) (by omega), wf_small (by omega) (by omega)⟩

theorem ends_wf {n : Nat} (hn : n ≤ 1048576) {js : List Jt} (h3 : ∀ k, k < js.length → jtBad3 n js k = false) : ∀ j ∈ js, ∀ e ∈ j.ends, Wf2 e := by
  intro j hj e he
  obtain ⟨k, hk, rfl⟩ := List.getElem_of_mem hj
  have h := h3 k hk
  rw [jtBad3_eq hk] at h
  simp only [Bool.or_eq_false_iff] at h
  have h2 := List.any_eq_false.1 h.2 e he
  exact endOk_wf hn (by simpa using h2)

theorem SE.look' {w : World} {b m : Nat} {js : List Jt} (h : SE w b m (seatTo js js.length)) (x y : Int) (hw : Wf2 (x, y)) :
    ∃ p q : Int, (Instr.lookup 96 (.map (some b)) (.agg #[.int .i64 x, .int .i64 y]) false).run Tryd.prog w = .ok (.agg #[.int .i64 p, .int .i64 q, .int .i64 (uses js (x, y) : Int)]) w := by
  refine ⟨((seatTo js js.length (x, y)).getD (0, 0, 0)).1, ((seatTo js js.length (x, y)).getD (0, 0, 0)).2.1, ?_⟩
  rw [h.look x y hw, ← times_all js (x, y)]
  rfl

theorem wrongEnds_any (a a' : Option Addr) (n cap cap' : Nat) (js : List Jt) (w : World) (hn : n ≤ 1048576) (hl : js.length ≤ 1048576) (hm : ∀ j ∈ js, j.name.size ≤ 1048576 ∧ j.ends.length ≤ 1048576) (h3 : ∀ k, k < js.length → jtBad3 n js k = false) (hj : JtsAt w a' js) :
    Calls Tryd.prog 31 #[.agg #[.slice a n cap, .slice a' js.length cap']] w fun e w' =>
    e = .returned (.int .i64 (firstI (pcBad5 js) n)) ∧ Below w.heap.size w w' := by
  have HJ := hide hj
  have HM := hide hm
  have HW := hide (ends_wf hn h3)
  clear hj hm h3
  go_enter Tryd.func31, Tryd.ntmps31
  go_wp2_with fail
  have hbW : Below w.heap.size w (w.alloc (.cells #[.slice a n cap, .slice a' js.length cap'] 31)) := (Below.refl _ _).alloc (Nat.le_refl _) _
  refine (seatsOf_any a' cap' js _ hl (fun j hj => (HM.out j hj).2) HW.out (HJ.out.later hbW)).mono ?_
  rintro e w1 ⟨rfl, ⟨m, hSE⟩, hb1⟩
  have d0 := box_cell hb1 0 _ rfl
  have hb2 := hbW.trans (hb1.mono hbW.size)
  have HSE := hide hSE
  clear hSE
  go_wp2_with fail
  go_loop [4, 11] (fun _ i => ∃ (k : Nat), k ≤ n ∧ i = .int .i64 k ∧ (∀ j, j < k → pcBad5 js j = false)) (fun _ i => n - (intOf i).toNat)
  case atStart => exact ⟨0, Nat.zero_le _, rfl, by omega⟩
  case round =>
    obtain ⟨k, hk, rfl, hall⟩ := hrel
    have HA := hide hall
    clear hall
    have hfld := field2
    by_cases hlt : k < n
    · obtain ⟨p0, q0, hl0⟩ := HSE.out.look' (k : Int) 0 ⟨wf_small (by omega) (by omega), wf_zero⟩
      obtain ⟨p1, q1, hl1⟩ := HSE.out.look' (k : Int) 1 ⟨wf_small (by omega) (by omega), wf_one⟩
      simp only [World.size_alloc] at hl0 hl1
      by_cases hu0 : uses js ((k : Int), 0) = 1
      · have hn0 : ((uses js ((k : Int), 0) : Int) != 1) = false := by rw [hu0]; rfl
        have HU0 := hide hu0
        clear hu0
        by_cases hu1 : uses js ((k : Int), 1) = 1
        · have hn1 : ((uses js ((k : Int), 1) : Int) != 1) = false := by rw [hu1]; rfl
          have HU1 := hide hu1
          clear hu1
          go_wp2_with fail
          refine ⟨⟨k + 1, by omega, by go_num, ?_⟩, by simp [intOf]; omega⟩
          intro j hj
          by_cases e : j = k
          · subst e; exact pcBad5_false HU0.out HU1.out
          · exact HA.out j (by omega)
        · have hn1 : ((uses js ((k : Int), 1) : Int) != 1) = true := by rw [bne_iff_ne]; omega
          have HU1 := hide hu1
          clear hu1
          go_wp2_with fail
          go_ret
          exact ⟨ret_i (firstI_some hlt (pcBad5_true1 HU1.out) HA.out).symm, hb2⟩
      · have hn0 : ((uses js ((k : Int), 0) : Int) != 1) = true := by rw [bne_iff_ne]; omega
        have HU0 := hide hu0
        clear hu0
        go_wp2_with fail
        go_ret
        exact ⟨ret_i (firstI_some hlt (pcBad5_true0 HU0.out) HA.out).symm, hb2⟩
    · go_wp2_with fail
      go_ret
      exact ⟨ret_i (firstI_none (fun j hj => HA.out j (by omega))).symm, hb2⟩
end Go.Proofs.YtokhbnlpifmjkaaDoor
