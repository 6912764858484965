import Derived.Test.YteapmddadieohaaMxAQ
import Derived.Test.YteapmddadieohaaMxAD
namespace Go.Proofs.Yteapmddadieohaa
open Go.RowKit
set_option maxHeartbeats 1000000

theorem SE.mono {w : World} {b n n' g} (h : SE w b n g) (hn : n ≤ n') : SE w b n' g := by
  obtain ⟨D, h, h2⟩ := h
  exact ⟨D, h.mono hn, h2⟩

theorem seatEnds_succ {g j es} {i : Nat} (h : i < es.length) : seatEnds g j es (i + 1) = seatAdd (seatEnds g j es i) es[i] j i := by
  simp [seatEnds, h]
theorem seatTo_succ {js : List Jt} {k : Nat} (h : k < js.length) : seatTo js (k + 1) = seatEnds (seatTo js k) k js[k].ends js[k].ends.length := by
  simp [seatTo, h]

theorem field2 (a b c : Int) (w : World) : (Instr.field 85 (.agg #[.int .i64 a, .int .i64 b, .int .i64 c]) 2).run Try.prog w = .ok (.int .i64 c) w := by kernel_rfl

def times (g : Int × Int → Option (Int × Int × Int)) (e : Int × Int) : Int := ((g e).getD (0, 0, 0)).2.2

theorem seatsOf_any (a : Option Addr) (cap : Nat) (js : List Jt) (w : World) (hl : js.length ≤ 1048576) (hm : ∀ j ∈ js, j.ends.length ≤ 1048576) (hw : ∀ j ∈ js, ∀ e ∈ j.ends, Wf2 e) (hj : JtsAt w a js) :
    Calls Try.prog 30 #[.slice a js.length cap] w fun e w' =>
    e = .returned (.map (some w.heap.size)) ∧ (∃ n, SE w' w.heap.size n (seatTo js js.length)) ∧ Below w.heap.size w w' := by
  have HJ := hide hj
  have HM := hide hm
  have HW := hide hw
  clear hj hm hw
  have hmm := @run_makeMap Try.prog
  go_enter Try.func30, Try.ntmps30
  go_wp2_with fail
  go_loopw [4, 5, 6, 7, 11] (fun _ _ _ _ i wr => ∃ (k n : Nat), k ≤ js.length ∧ n ≤ k * 1048576 ∧ i = .int .i64 k ∧ Hid (SE wr w.heap.size n (seatTo js k)) ∧ Hid (∀ e, 0 ≤ times (seatTo js k) e ∧ times (seatTo js k) e ≤ k * 1048576) ∧ Below w.heap.size w wr) (fun _ _ _ _ i _ => js.length - (intOf i).toNat)
  case atStart => exact ⟨0, 0, Nat.zero_le _, Nat.zero_le _, rfl, SE.made w, fun e => by simp [times, seatTo], (Below.refl _ _).alloc (Nat.le_refl _) _⟩
  case round =>
    obtain ⟨k, n, hk, hnk, rfl, hSE, hT, hb⟩ := hrel
    clear hmm
    by_cases hlt : k < js.length
    · obtain ⟨b, off, ea, ec, rfl, cw0, cw1, cw2, ce⟩ := HJ.out k hlt
      have CE := hide ce
      have c0 := cell_later' hb cw0
      have c1 := cell_later' hb cw1
      have c2 := cell_later' hb cw2
      have hblt := cell_lt c0
      clear cw0 cw1 cw2
      have hm := HM.out _ (List.getElem_mem hlt)
      clear ce
      go_wp2_with fail
      have hbA : Below wr.heap.size wr (wr.alloc (.cells #[.int .i64 js[k].kind, .string js[k].name, .slice ea js[k].ends.length ec] 53)) := (Below.refl _ _).alloc (Nat.le_refl _) _
      go_loopw [6, 7, 19] (fun _ _ i wi => ∃ (t n : Nat), t ≤ js[k].ends.length ∧ n ≤ k * 1048576 + t ∧ i = .int .i64 t ∧ Hid (SE wi w.heap.size n (seatEnds (seatTo js k) k js[k].ends t)) ∧ Hid (∀ e, 0 ≤ times (seatEnds (seatTo js k) k js[k].ends t) e ∧ times (seatEnds (seatTo js k) k js[k].ends t) e ≤ k * 1048576 + t) ∧ Below w.heap.size w wi) (fun _ _ i _ => js[k].ends.length - (intOf i).toNat)
      case atStart =>
        refine ⟨0, n, Nat.zero_le _, Nat.le_add_right_of_le hnk, rfl, ?_, ?_, hb.trans (hbA.mono hb.size)⟩
        · exact hSE.out.of_block (hbA.block _ hSE.out.lt)
        · intro e
          have := hT.out e
          have h0 : seatEnds (seatTo js k) (k : Int) js[k].ends 0 = seatTo js k := rfl
          rw [h0]
          omega
      case round =>
        obtain ⟨t, n', ht, hnt, rfl, hSEi, hTi, hbi⟩ := hrel
        by_cases hti : t < js[k].ends.length
        · obtain ⟨b2, off2, rfl, d0, d1⟩ := (CE.out.later hbi) t hti
          have hb2lt := cell_lt d0
          have hwf : Wf2 (js[k].ends[t].1, js[k].ends[t].2) := HW.out _ (List.getElem_mem hlt) _ (List.getElem_mem hti)
          have hbB : Below wr.heap.size wr (wr.alloc (.cells #[.int .i64 js[k].ends[t].1, .int .i64 js[k].ends[t].2] 59)) := (Below.refl _ _).alloc (Nat.le_refl _) _
          have hSEj := hSEi.out.of_block (w' := (wr.alloc (.cells #[.int .i64 js[k].ends[t].1, .int .i64 js[k].ends[t].2] 59)).drew) (hbB.block _ hSEi.out.lt)
          have hlook := hSEj.look js[k].ends[t].1 js[k].ends[t].2 hwf
          have htm := hTi.out js[k].ends[t]
          unfold times at htm
          generalize hgg : (seatEnds (seatTo js k) k js[k].ends t js[k].ends[t]).getD (0, 0, 0) = tt at htm
          have HGG := hide hgg
          have hlook' : (Instr.lookup 66 (.map (some w.heap.size)) (.agg #[.int .i64 js[k].ends[t].1, .int .i64 js[k].ends[t].2]) false).run Try.prog (wr.alloc (.cells #[.int .i64 js[k].ends[t].1, .int .i64 js[k].ends[t].2] 59)).drew = .ok (.agg #[.int .i64 tt.1, .int .i64 tt.2.1, .int .i64 tt.2.2]) (wr.alloc (.cells #[.int .i64 js[k].ends[t].1, .int .i64 js[k].ends[t].2] 59)).drew := by
            rw [hlook, ← hgg]; rfl
          obtain ⟨w2, hput, hSE2, hg⟩ := hSEj.put (by unfold maxLen; omega) js[k].ends[t].1 js[k].ends[t].2 hwf (k, t, tt.2.2 + 1)
          unfold seatV at hput
          have HSE2 := hide hSE2
          have HG := hide hg
          have HTM := hide htm
          clear hlook hgg hSEj hg hSE2
          have hfld := field2
          go_wp2_with fail
          go_region
          go_wp2_with fail
          go_roundw
          case rel =>
            refine ⟨t + 1, n' + 1, by omega, by omega, by go_num, ?_, ?_, ?_⟩
            · show SE _ _ _ _
              rw [seatEnds_succ hti]
              unfold seatAdd
              rw [HGG.out]
              exact HSE2.out
            · intro e
              rw [seatEnds_succ hti]
              have h1 := hTi.out e
              have h2 := HTM.out
              by_cases he : e = js[k].ends[t]
              · have : times (seatAdd (seatEnds (seatTo js k) k js[k].ends t) js[k].ends[t] k t) e = tt.2.2 + 1 := by
                  unfold times seatAdd; rw [if_pos he, HGG.out]; rfl
                rw [this]
                omega
              · have : times (seatAdd (seatEnds (seatTo js k) k js[k].ends t) js[k].ends[t] k t) e = times (seatEnds (seatTo js k) k js[k].ends t) e := by
                  unfold times seatAdd; rw [if_neg he]
                rw [this]
                omega
            · exact (hbi.alloc hbi.size _).drew.grown HG.out (by have := hbi.size; simp; omega) (fun j hj => by cases hj; exact Nat.le_refl _)
          case measure => simp [intOf]; omega
        · go_wp2_with fail
          go_roundw
          case rel =>
            obtain rfl : t = js[k].ends.length := by omega
            refine ⟨k + 1, n', by omega, by omega, by go_num, ?_, ?_, hbi⟩
            · rw [seatTo_succ hlt]; exact hSEi
            · rw [seatTo_succ hlt]
              intro e
              have := hTi.out e
              omega
          case measure => simp [intOf]; omega
    · go_wp2_with fail
      go_ret
      refine ⟨rfl, ⟨n, ?_⟩, hb⟩
      have h := hSE.out
      rwa [show k = js.length by omega] at h
end Go.Proofs.Yteapmddadieohaa

namespace Go.Proofs.Yteapmddadieohaa
open Go.RowKit
set_option maxHeartbeats 1000000

theorem wf_small {x : Int} (h0 : -1048576 ≤ x) (h1 : x ≤ 1048576) : (Lit.int .i64 x).wf = true := by
  simp [Lit.wf, IntKind.min, IntKind.max, IntKind.signed, IntKind.bits]; omega

theorem wf_zero : (Lit.int .i64 0).wf = true := by decide
theorem wf_one : (Lit.int .i64 1).wf = true := by decide

theorem times_ends (g : Int × Int → Option (Int × Int × Int)) (j : Int) (es : List (Int × Int)) (e : Int × Int) (i : Nat) (hi : i ≤ es.length) : times (seatEnds g j es i) e = times g e + ((es.take i).count e : Int) := by
  induction i with
  | zero => simp [seatEnds]
  | succ i ih =>
    rw [seatEnds_succ (by omega), count_snoc es i (by omega)]
    have h := ih (by omega)
    by_cases he : e = es[i]
    · have h2 : times (seatAdd (seatEnds g j es i) es[i] j i) e = times (seatEnds g j es i) e + 1 := by
        unfold times seatAdd; rw [if_pos he, he]; rfl
      rw [h2, h, if_pos he.symm]; omega
    · have h2 : times (seatAdd (seatEnds g j es i) es[i] j i) e = times (seatEnds g j es i) e := by
        unfold times seatAdd; rw [if_neg he]
      rw [h2, h, if_neg (fun h => he h.symm)]; omega

theorem times_to (js : List Jt) (e : Int × Int) (k : Nat) (hk : k ≤ js.length) : times (seatTo js k) e = (uses (js.take k) e : Int) := by
  induction k with
  | zero => simp [times, seatTo, uses, allEnds]
  | succ k ih =>
    rw [seatTo_succ (by omega), times_ends _ _ _ _ _ (Nat.le_refl _), ih (by omega), List.take_length, uses_snoc js k (by omega)]
    omega

theorem times_all (js : List Jt) (e : Int × Int) : times (seatTo js js.length) e = (uses js e : Int) := by
  rw [times_to js e _ (Nat.le_refl _), List.take_length]

theorem endOk_wf {n : Nat} (hn : n ≤ 1048576) {e : Int × Int} (h : endOk n e = true) : Wf2 e := by
  simp [endOk, inR] at h
  exact ⟨wf_small (by omega) (by omega), wf_small (by omega) (by omega)⟩

theorem ends_wf {n : Nat} (hn : n ≤ 1048576) {js : List Jt} (h3 : ∀ k, k < js.length → jtBad3 n js k = false) : ∀ j ∈ js, ∀ e ∈ j.ends, Wf2 e := by
  intro j hj e he
  obtain ⟨k, hk, rfl⟩ := List.getElem_of_mem hj
  have h := h3 k hk
  rw [jtBad3_eq hk] at h
  simp only [Bool.or_eq_false_iff] at h
  have h2 := List.any_eq_false.1 h.2 e he
  exact endOk_wf hn (by simpa using h2)

theorem SE.look' {w : World} {b m : Nat} {js : List Jt} (h : SE w b m (seatTo js js.length)) (x y : Int) (hw : Wf2 (x, y)) :
    ∃ p q : Int, (Instr.lookup 66 (.map (some b)) (.agg #[.int .i64 x, .int .i64 y]) false).run Try.prog w = .ok (.agg #[.int .i64 p, .int .i64 q, .int .i64 (uses js (x, y) : Int)]) w := by
  refine ⟨((seatTo js js.length (x, y)).getD (0, 0, 0)).1, ((seatTo js js.length (x, y)).getD (0, 0, 0)).2.1, ?_⟩
  rw [h.look x y hw, ← times_all js (x, y)]
  rfl

theorem wrongEnds_any (a a' : Option Addr) (n cap cap' : Nat) (js : List Jt) (w : World) (hn : n ≤ 1048576) (hl : js.length ≤ 1048576) (hm : ∀ j ∈ js, j.name.size ≤ 1048576 ∧ j.ends.length ≤ 1048576) (h3 : ∀ k, k < js.length → jtBad3 n js k = false) (hj : JtsAt w a' js) :
    Calls Try.prog 51 #[.agg #[.slice a n cap, .slice a' js.length cap']] w fun e w' =>
    e = .returned (.int .i64 (firstI (pcBad5 js) n)) ∧ Below w.heap.size w w' := by
  have HJ := hide hj
  have HM := hide hm
  have HW := hide (ends_wf hn h3)
  clear hj hm h3
  go_enter Try.func51, Try.ntmps51
  go_wp2_with fail
  have hbW : Below w.heap.size w (w.alloc (.cells #[.slice a n cap, .slice a' js.length cap'] 26)) := (Below.refl _ _).alloc (Nat.le_refl _) _
  refine (seatsOf_any a' cap' js _ hl (fun j hj => (HM.out j hj).2) HW.out (HJ.out.later hbW)).mono ?_
  rintro e w1 ⟨rfl, ⟨m, hSE⟩, hb1⟩
  have d0 := box_cell hb1 0 _ rfl
  have hb2 := hbW.trans (hb1.mono hbW.size)
  have HSE := hide hSE
  clear hSE
  go_wp2_with fail
  go_loop [4, 11] (fun _ i => ∃ (k : Nat), k ≤ n ∧ i = .int .i64 k ∧ (∀ j, j < k → pcBad5 js j = false)) (fun _ i => n - (intOf i).toNat)
  case atStart => exact ⟨0, Nat.zero_le _, rfl, by omega⟩
  case round =>
    obtain ⟨k, hk, rfl, hall⟩ := hrel
    have HA := hide hall
    clear hall
    have hfld := field2
    by_cases hlt : k < n
    · obtain ⟨p0, q0, hl0⟩ := HSE.out.look' (k : Int) 0 ⟨wf_small (by omega) (by omega), wf_zero⟩
      obtain ⟨p1, q1, hl1⟩ := HSE.out.look' (k : Int) 1 ⟨wf_small (by omega) (by omega), wf_one⟩
      simp only [World.size_alloc] at hl0 hl1
      by_cases hu0 : uses js ((k : Int), 0) = 1
      · have hn0 : ((uses js ((k : Int), 0) : Int) != 1) = false := by rw [hu0]; rfl
        have HU0 := hide hu0
        clear hu0
        by_cases hu1 : uses js ((k : Int), 1) = 1
        · have hn1 : ((uses js ((k : Int), 1) : Int) != 1) = false := by rw [hu1]; rfl
          have HU1 := hide hu1
          clear hu1
          go_wp2_with fail
          refine ⟨⟨k + 1, by omega, by go_num, ?_⟩, by simp [intOf]; omega⟩
          intro j hj
          by_cases e : j = k
          · subst e; exact pcBad5_false HU0.out HU1.out
          · exact HA.out j (by omega)
        · have hn1 : ((uses js ((k : Int), 1) : Int) != 1) = true := by rw [bne_iff_ne]; omega
          have HU1 := hide hu1
          clear hu1
          go_wp2_with fail
          go_ret
          exact ⟨ret_i (firstI_some hlt (pcBad5_true1 HU1.out) HA.out).symm, hb2⟩
      · have hn0 : ((uses js ((k : Int), 0) : Int) != 1) = true := by rw [bne_iff_ne]; omega
        have HU0 := hide hu0
        clear hu0
        go_wp2_with fail
        go_ret
        exact ⟨ret_i (firstI_some hlt (pcBad5_true0 HU0.out) HA.out).symm, hb2⟩
    · go_wp2_with fail
      go_ret
      exact ⟨ret_i (firstI_none (fun j hj => HA.out j (by omega))).symm, hb2⟩
end Go.Proofs.Yteapmddadieohaa
