import Derived.Test.YtldafgbhjpfboaaGreatMxAC
import Derived.Test.YtldafgbhjpfboaaGreatMxAA
import Derived.Test.YtldafgbhjpfboaaGreatTo
import Derived.Deep.QuietTactic
import Derived.BigQuiet
namespace Go.Proofs.YtldafgbhjpfboaaGreat
open Go.RowKit
set_option maxHeartbeats 1000000

theorem SE.mono {w : World} {b n n' g} (h : SE w b n g) (hn : n ≤ n') : SE w b n' g := by
  obtain ⟨D, h, h2⟩ := h
  exact ⟨D, h.mono hn, h2⟩

theorem seatEnds_succ {g j es} {i : Nat} (h : i < es.length) : seatEnds g j es (i + 1) = seatAdd (seatEnds g j es i) es[i] j i := by
  simp [seatEnds, h]
theorem seatTo_succ {js : List Jt} {k : Nat} (h : k < js.length) : seatTo js (k + 1) = seatEnds (seatTo js k) k js[k].ends js[k].ends.length := by
  simp [seatTo, h]

theorem field2 (a b c : Int) (w : World) : (Instr.field 124 (.agg #[.int .i64 a, .int .i64 b, .int .i64 c]) 2).run Tryz.prog w = .ok (.int .i64 c) w := by kernel_rfl

def times (g : Int × Int → Option (Int × Int × Int)) (e : Int × Int) : Int := ((g e).getD (0, 0, 0)).2.2

theorem seatsOf_any (a : Option Addr) (cap : Nat) (js : List Jt) (w : World) (hl : js.length ≤ 1048576) (hm : ∀ j ∈ js, j.ends.length ≤ 1048576) (hw : ∀ j ∈ js, ∀ e ∈ j.ends, Wf2 e) (hj : JtsAt w a js) :
    Calls Tryz.prog 44 #[.slice a js.length cap] w fun e w' =>
    e = .returned (.map (some w.heap.size)) ∧ (∃ n, SE w' w.heap.size n (seatTo js js.length)) ∧ Below w.heap.size w w' := by
  have HJ := hide hj
  have HM := hide hm
  have HW := hide hw
  clear hj hm hw
  have hmm := @run_makeMap Tryz.prog
  go_enter Tryz.func44, Tryz.ntmps44
  go_wp2_with fail
  go_loopw [4, 5, 6, 7, 11] (fun _ _ _ _ i wr => ∃ (k n : Nat), k ≤ js.length ∧ n ≤ k * 1048576 ∧ i = .int .i64 k ∧ Hid (SE wr w.heap.size n (seatTo js k)) ∧ Hid (∀ e, 0 ≤ times (seatTo js k) e ∧ times (seatTo js k) e ≤ k * 1048576) ∧ Below w.heap.size w wr) (fun _ _ _ _ i _ => js.length - (intOf i).toNat)
  case atStart => exact ⟨0, 0, Nat.zero_le _, Nat.zero_le _, rfl, SE.made w, fun e => by simp [times, seatTo], (Below.refl _ _).alloc (Nat.le_refl _) _⟩
  case round =>
    obtain ⟨k, n, hk, hnk, rfl, hSE, hT, hb⟩ := hrel
    clear hmm
    by_cases hlt : k < js.length
    · obtain ⟨b, off, ea, ec, rfl, cw0, cw1, cw2, ce⟩ := HJ.out k hlt
      have CE := hide ce
      have c0 := cell_later' hb cw0
      have c1 := cell_later' hb cw1
      have c2 := cell_later' hb cw2
      have hblt := cell_lt c0
      clear cw0 cw1 cw2
      have hm := HM.out _ (List.getElem_mem hlt)
      clear ce
      go_wp2_with fail
      have hbA : Below wr.heap.size wr (wr.alloc (.cells #[.int .i64 js[k].kind, .string js[k].name, .slice ea js[k].ends.length ec] 79)) := (Below.refl _ _).alloc (Nat.le_refl _) _
      go_loopw [6, 7, 19] (fun _ _ i wi => ∃ (t n : Nat), t ≤ js[k].ends.length ∧ n ≤ k * 1048576 + t ∧ i = .int .i64 t ∧ Hid (SE wi w.heap.size n (seatEnds (seatTo js k) k js[k].ends t)) ∧ Hid (∀ e, 0 ≤ times (seatEnds (seatTo js k) k js[k].ends t) e ∧ times (seatEnds (seatTo js k) k js[k].ends t) e ≤ k * 1048576 + t) ∧ Below w.heap.size w wi) (fun _ _ i _ => js[k].ends.length - (intOf i).toNat)
      case atStart =>
        refine ⟨0, n, Nat.zero_le _, Nat.le_add_right_of_le hnk, rfl, ?_, ?_, hb.trans (hbA.mono hb.size)⟩
        · exact hSE.out.of_block (hbA.block _ hSE.out.lt)
        · intro e
          have := hT.out e
          have h0 : seatEnds (seatTo js k) (k : Int) js[k].ends 0 = seatTo js k := rfl
          rw [h0]
          omega
      case round =>
        obtain ⟨t, n', ht, hnt, rfl, hSEi, hTi, hbi⟩ := hrel
        by_cases hti : t < js[k].ends.length
        · obtain ⟨b2, off2, rfl, d0, d1⟩ := (CE.out.later hbi) t hti
          have hb2lt := cell_lt d0
          have hwf : Wf2 (js[k].ends[t].1, js[k].ends[t].2) := HW.out _ (List.getElem_mem hlt) _ (List.getElem_mem hti)
          have hbB : Below wr.heap.size wr (wr.alloc (.cells #[.int .i64 js[k].ends[t].1, .int .i64 js[k].ends[t].2] 89)) := (Below.refl _ _).alloc (Nat.le_refl _) _
          have hSEj := hSEi.out.of_block (w' := (wr.alloc (.cells #[.int .i64 js[k].ends[t].1, .int .i64 js[k].ends[t].2] 89)).drew) (hbB.block _ hSEi.out.lt)
          have hlook := hSEj.look js[k].ends[t].1 js[k].ends[t].2 hwf
          have htm := hTi.out js[k].ends[t]
          unfold times at htm
          generalize hgg : (seatEnds (seatTo js k) k js[k].ends t js[k].ends[t]).getD (0, 0, 0) = tt at htm
          have HGG := hide hgg
          have hlook' : (Instr.lookup 64 (.map (some w.heap.size)) (.agg #[.int .i64 js[k].ends[t].1, .int .i64 js[k].ends[t].2]) false).run Tryz.prog (wr.alloc (.cells #[.int .i64 js[k].ends[t].1, .int .i64 js[k].ends[t].2] 89)).drew = .ok (.agg #[.int .i64 tt.1, .int .i64 tt.2.1, .int .i64 tt.2.2]) (wr.alloc (.cells #[.int .i64 js[k].ends[t].1, .int .i64 js[k].ends[t].2] 89)).drew := by
            rw [hlook, ← hgg]; rfl
          obtain ⟨w2, hput, hSE2, hg⟩ := hSEj.put (by unfold maxLen; omega) js[k].ends[t].1 js[k].ends[t].2 hwf (k, t, tt.2.2 + 1)
          unfold seatV at hput
          have HSE2 := hide hSE2
          have HG := hide hg
          have HTM := hide htm
          clear hlook hgg hSEj hg hSE2
          have hfld := field2
          go_wp2_with fail
          go_region
          go_wp2_with fail
          go_roundw
          case rel =>
            refine ⟨t + 1, n' + 1, by omega, by omega, by go_num, ?_, ?_, ?_⟩
            · show SE _ _ _ _
              rw [seatEnds_succ hti]
              unfold seatAdd
              rw [HGG.out]
              exact HSE2.out
            · intro e
              rw [seatEnds_succ hti]
              have h1 := hTi.out e
              have h2 := HTM.out
              by_cases he : e = js[k].ends[t]
              · have : times (seatAdd (seatEnds (seatTo js k) k js[k].ends t) js[k].ends[t] k t) e = tt.2.2 + 1 := by
                  unfold times seatAdd; rw [if_pos he, HGG.out]; rfl
                rw [this]
                omega
              · have : times (seatAdd (seatEnds (seatTo js k) k js[k].ends t) js[k].ends[t] k t) e = times (seatEnds (seatTo js k) k js[k].ends t) e := by
                  unfold times seatAdd; rw [if_neg he]
                rw [this]
                omega
            · exact (hbi.alloc hbi.size _).drew.grown HG.out (by have := hbi.size; simp; omega) (fun j hj => by cases hj; exact Nat.le_refl _)
          case measure => simp [intOf]; omega
        · go_wp2_with fail
          go_roundw
          case rel =>
            obtain rfl : t = js[k].ends.length := by omega
            refine ⟨k + 1, n', by omega, by omega, by go_num, ?_, ?_, hbi⟩
            · rw [seatTo_succ hlt]; exact hSEi
            · rw [seatTo_succ hlt]
              intro e
              have := hTi.out e
              omega
          case measure => simp [intOf]; omega
    · go_wp2_with fail
      go_ret
      refine ⟨rfl, ⟨n, ?_⟩, hb⟩
      have h := hSE.out
      rwa [show k = js.length by omega] at h
end Go.Proofs.YtldafgbhjpfboaaGreat

namespace Go.Proofs.YtldafgbhjpfboaaGreat
open Go.RowKit
set_option maxHeartbeats 400000

theorem l1end_any (a a' : Option Addr) (n m cap cap' : Nat) (p s : Int) (w : World) (hn : n ≤ 1048576) :
    Calls Tryz.prog 95 #[.agg #[.slice a n cap, .slice a' m cap'], .agg #[.int .i64 p, .int .i64 s]] w fun e w' =>
    e = .returned (.bool (endOk n (p, s))) ∧ Below w.heap.size w w' := by
  cases h : inR p 0 ((n : Int) - 1)
  · have H := hide h
    clear h
    go_enter Tryz.func95, Tryz.ntmps95
    go_wp2_with fail
    refine (l1in_any _ _ _ _).mono ?_
    rintro e w1 ⟨rfl, rfl⟩
    rw [H.out]
    go_wp2_with fail
    go_ret
    exact ⟨ret_b (by simp [endOk, H.out]), ((Below.refl _ _).alloc (Nat.le_refl _) _).alloc (by simp) _⟩
  · have H := hide h
    clear h
    go_enter Tryz.func95, Tryz.ntmps95
    go_wp2_with fail
    refine (l1in_any _ _ _ _).mono ?_
    rintro e w1 ⟨rfl, rfl⟩
    rw [H.out]
    go_wp2_with fail
    refine (l1in_any _ _ _ _).mono ?_
    rintro e w1 ⟨rfl, rfl⟩
    go_wp2_with fail
    go_ret
    exact ⟨ret_b (by simp [endOk, H.out]), ((Below.refl _ _).alloc (Nat.le_refl _) _).alloc (by simp) _⟩

theorem uses_le (js : List Jt) (e : Int × Int) (h : ∀ j ∈ js, j.ends.length ≤ 1048576) : uses js e ≤ js.length * 1048576 := by
  induction js with
  | nil => simp [uses, allEnds]
  | cons j js ih =>
    have h1 := ih (fun x hx => h x (List.mem_cons_of_mem _ hx))
    have h2 := h j (List.mem_cons_self ..)
    have h3 := List.count_le_length (a := e) (l := j.ends)
    simp only [uses, allEnds, List.flatMap_cons, List.count_append, List.length_cons] at *
    omega

theorem uses_snoc (js : List Jt) (k : Nat) (hk : k < js.length) (e : Int × Int) : uses (js.take (k + 1)) e = uses (js.take k) e + js[k].ends.count e := by
  unfold uses allEnds
  rw [List.take_succ_eq_append_getElem hk, List.flatMap_append, List.count_append, List.flatMap_singleton]

theorem count_snoc (es : List (Int × Int)) (k : Nat) (hk : k < es.length) (e : Int × Int) : (es.take (k + 1)).count e = (es.take k).count e + if es[k] = e then 1 else 0 := by
  rw [List.take_succ_eq_append_getElem hk, List.count_append, List.count_singleton]
  simp

theorem l1uses_any (a a' : Option Addr) (n cap cap' : Nat) (js : List Jt) (p s : Int) (w : World) (hn : js.length ≤ 1048576) (hm : ∀ j ∈ js, j.ends.length ≤ 1048576) (hj : JtsAt w a' js) :
    Calls Tryz.prog 90 #[.agg #[.slice a n cap, .slice a' js.length cap'], .agg #[.int .i64 p, .int .i64 s]] w fun e w' =>
    e = .returned (.int .i64 (uses js (p, s))) ∧ Below w.heap.size w w' := by
  have HJ := hide hj
  have HM := hide hm
  clear hj hm
  go_enter Tryz.func90, Tryz.ntmps90
  go_wp2
  have hbW : Below w.heap.size w ((w.alloc (.cells #[.slice a n cap, .slice a' js.length cap'] 26)).alloc (.cells #[.int .i64 p, .int .i64 s] 89)) := ((Below.refl _ _).alloc (Nat.le_refl _) _).alloc (by simp) _
  go_loopw [5, 7, 9, 13] (fun q _ _ i wr => ∃ (k : Nat) (c : Nat), k ≤ js.length ∧ i = .int .i64 k ∧ q = .int .i64 c ∧ Hid (c = uses (js.take k) (p, s)) ∧ wr.cell? ⟨w.heap.size + 1, 0, none⟩ = some (.int .i64 p) ∧ wr.cell? ⟨w.heap.size + 1, 1, none⟩ = some (.int .i64 s) ∧ w.heap.size + 2 ≤ wr.heap.size ∧ Below w.heap.size w wr) (fun _ _ _ i _ => js.length - (intOf i).toNat)
  case atStart => exact ⟨0, 0, Nat.zero_le _, rfl, rfl, rfl, by simp [go_sem], by simp [go_sem], by simp, hbW⟩
  case round =>
    obtain ⟨k, c, hk, rfl, rfl, hc, e0, e1, hz, hb⟩ := hrel
    by_cases hlt : k < js.length
    · obtain ⟨b, off, ea, ec, rfl, c0, c1, c2, ce⟩ := (JtsAt.later HJ.out hb) k hlt
      have CE := hide ce
      have hm := HM.out _ (List.getElem_mem hlt)
      have hcb : c ≤ k * 1048576 := by
        rw [hc.out]
        have := uses_le (js.take k) (p, s) (fun j hj => HM.out j (List.mem_of_mem_take hj))
        rw [List.length_take_of_le hk] at this
        exact this
      clear ce
      go_wp2
      have hbA : Below wr.heap.size wr (wr.alloc (Obj.cells #[Value.int IntKind.i64 js[k].kind, Value.string js[k].name, Value.slice ea js[k].ends.length ec] 79)) := (Below.refl _ _).alloc (Nat.le_refl _) _
      go_loopw [5, 20] (fun q i wi => ∃ (t : Nat) (c' : Nat), t ≤ js[k].ends.length ∧ i = .int .i64 t ∧ q = .int .i64 c' ∧ Hid (c' = c + (js[k].ends.take t).count (p, s)) ∧ Below wr.heap.size wr wi) (fun _ i _ => js[k].ends.length - (intOf i).toNat)
      case atStart => exact ⟨0, c, Nat.zero_le _, rfl, rfl, by simp [Hid], hbA⟩
      case round =>
        obtain ⟨t, c', ht, rfl, rfl, hc', hbi⟩ := hrel
        have hcb' : c' ≤ k * 1048576 + 1048576 := by
          rw [hc'.out]
          have := List.count_le_length (a := (p, s)) (l := js[k].ends.take t)
          rw [List.length_take_of_le ht] at this
          omega
        have e0' := cell_keep hbi (by omega) e0
        have e1' := cell_keep hbi (by omega) e1
        by_cases hti : t < js[k].ends.length
        · obtain ⟨b2, off2, rfl, d0, d1⟩ := (EndsAt.later CE.out hbi) t hti
          have hzi : w.heap.size + 1 < wr.heap.size := Nat.lt_of_lt_of_le (Nat.lt_of_lt_of_le (by omega) hz) hbi.size
          have hcs := hide (count_snoc js[k].ends t hti (p, s))
          go_wp2
          · refine ⟨⟨t + 1, c' + 1, by omega, by go_num, by go_num, ?_, hbi.alloc hbi.size _⟩, by simp [intOf]; omega⟩
            show c' + 1 = _
            rw [hcs.out, if_pos (Prod.ext ‹_› ‹_›), hc'.out]; omega
          · refine ⟨⟨t + 1, c', by omega, by go_num, rfl, ?_, hbi.alloc hbi.size _⟩, by simp [intOf]; omega⟩
            show c' = _
            rw [hcs.out, if_neg (fun h => ‹¬ _› (congrArg Prod.snd h)), hc'.out]; omega
          · refine ⟨⟨t + 1, c', by omega, by go_num, rfl, ?_, hbi.alloc hbi.size _⟩, by simp [intOf]; omega⟩
            show c' = _
            rw [hcs.out, if_neg (fun h => ‹¬ _› (congrArg Prod.fst h)), hc'.out]; omega
        · go_wp2
          go_roundw
          case rel =>
            refine ⟨k + 1, c', by omega, by go_num, rfl, ?_, e0', e1', Nat.le_trans hz hbi.size, hb.trans (hbi.mono hb.size)⟩
            rw [uses_snoc js k hlt, hc'.out, hc.out, List.take_of_length_le (l := js[k].ends) (by omega)]
            rfl
          case measure => simp [intOf]; omega
    · go_wp2
      go_ret
      refine ⟨?_, hb⟩
      rw [hc.out, List.take_of_length_le (by omega)]
      rfl
end Go.Proofs.YtldafgbhjpfboaaGreat

namespace Go.Proofs.YtldafgbhjpfboaaGreat
open Go.RowKit
set_option maxHeartbeats 1000000

theorem wf_small {x : Int} (h0 : -1048576 ≤ x) (h1 : x ≤ 1048576) : (Lit.int .i64 x).wf = true := by
  simp [Lit.wf, IntKind.min, IntKind.max, IntKind.signed, IntKind.bits]; omega

theorem wf_zero : (Lit.int .i64 0).wf = true := by decide
theorem wf_one : (Lit.int .i64 1).wf = true := by decide

theorem times_ends (g : Int × Int → Option (Int × Int × Int)) (j : Int) (es : List (Int × Int)) (e : Int × Int) (i : Nat) (hi : i ≤ es.length) : times (seatEnds g j es i) e = times g e + ((es.take i).count e : Int) := by
  induction i with
  | zero => simp [seatEnds]
  | succ i ih =>
    rw [seatEnds_succ (by omega), count_snoc es i (by omega)]
    have h := ih (by omega)
    by_cases he : e = es[i]
    · have h2 : times (seatAdd (seatEnds g j es i) es[i] j i) e = times (seatEnds g j es i) e + 1 := by
        unfold times seatAdd; rw [if_pos he, he]; rfl
      rw [h2, h, if_pos he.symm]; omega
    · have h2 : times (seatAdd (seatEnds g j es i) es[i] j i) e = times (seatEnds g j es i) e := by
        unfold times seatAdd; rw [if_neg he]
      rw [h2, h, if_neg (fun h => he h.symm)]; omega

theorem times_to (js : List Jt) (e : Int × Int) (k : Nat) (hk : k ≤ js.length) : times (seatTo js k) e = (uses (js.take k) e : Int) := by
  induction k with
  | zero => simp [times, seatTo, uses, allEnds]
  | succ k ih =>
    rw [seatTo_succ (by omega), times_ends _ _ _ _ _ (Nat.le_refl _), ih (by omega), List.take_length, uses_snoc js k (by omega)]
    omega

theorem times_all (js : List Jt) (e : Int × Int) : times (seatTo js js.length) e = (uses js e : Int) := by
  rw [times_to js e _ (Nat.le_refl _), List.take_length]

theorem endOk_wf {n : Nat} (hn : n ≤ 1048576) {e : Int × Int} (h : endOk n e = true) : Wf2 e := by
  simp [endOk, inR] at h
  exact ⟨wf_small (by omega) (by omega), wf_small (by omega) (by omega)⟩

theorem ends_wf {n : Nat} (hn : n ≤ 1048576) {js : List Jt} (h3 : ∀ k, k < js.length → jtBad3 n js k = false) : ∀ j ∈ js, ∀ e ∈ j.ends, Wf2 e := by
  intro j hj e he
  obtain ⟨k, hk, rfl⟩ := List.getElem_of_mem hj
  have h := h3 k hk
  rw [jtBad3_eq hk] at h
  simp only [Bool.or_eq_false_iff] at h
  have h2 := List.any_eq_false.1 h.2 e he
  exact endOk_wf hn (by simpa using h2)

theorem SE.look' {w : World} {b m : Nat} {js : List Jt} (h : SE w b m (seatTo js js.length)) (x y : Int) (hw : Wf2 (x, y)) :
    ∃ p q : Int, (Instr.lookup 64 (.map (some b)) (.agg #[.int .i64 x, .int .i64 y]) false).run Tryz.prog w = .ok (.agg #[.int .i64 p, .int .i64 q, .int .i64 (uses js (x, y) : Int)]) w := by
  refine ⟨((seatTo js js.length (x, y)).getD (0, 0, 0)).1, ((seatTo js js.length (x, y)).getD (0, 0, 0)).2.1, ?_⟩
  rw [h.look x y hw, ← times_all js (x, y)]
  rfl

theorem wrongEnds_any (a a' : Option Addr) (n cap cap' : Nat) (js : List Jt) (w : World) (hn : n ≤ 1048576) (hl : js.length ≤ 1048576) (hm : ∀ j ∈ js, j.name.size ≤ 1048576 ∧ j.ends.length ≤ 1048576) (h3 : ∀ k, k < js.length → jtBad3 n js k = false) (hj : JtsAt w a' js) :
    Calls Tryz.prog 61 #[.agg #[.slice a n cap, .slice a' js.length cap']] w fun e w' =>
    e = .returned (.int .i64 (firstI (pcBad5 js) n)) ∧ Below w.heap.size w w' := by
  have HJ := hide hj
  have HM := hide hm
  have HW := hide (ends_wf hn h3)
  clear hj hm h3
  go_enter Tryz.func61, Tryz.ntmps61
  go_wp2_with fail
  have hbW : Below w.heap.size w (w.alloc (.cells #[.slice a n cap, .slice a' js.length cap'] 26)) := (Below.refl _ _).alloc (Nat.le_refl _) _
  refine (seatsOf_any a' cap' js _ hl (fun j hj => (HM.out j hj).2) HW.out (HJ.out.later hbW)).mono ?_
  rintro e w1 ⟨rfl, ⟨m, hSE⟩, hb1⟩
  have d0 := box_cell hb1 0 _ rfl
  have hb2 := hbW.trans (hb1.mono hbW.size)
  have HSE := hide hSE
  clear hSE
  go_wp2_with fail
  go_loop [4, 11] (fun _ i => ∃ (k : Nat), k ≤ n ∧ i = .int .i64 k ∧ (∀ j, j < k → pcBad5 js j = false)) (fun _ i => n - (intOf i).toNat)
  case atStart => exact ⟨0, Nat.zero_le _, rfl, by omega⟩
  case round =>
    obtain ⟨k, hk, rfl, hall⟩ := hrel
    have HA := hide hall
    clear hall
    have hfld := field2
    by_cases hlt : k < n
    · obtain ⟨p0, q0, hl0⟩ := HSE.out.look' (k : Int) 0 ⟨wf_small (by omega) (by omega), wf_zero⟩
      obtain ⟨p1, q1, hl1⟩ := HSE.out.look' (k : Int) 1 ⟨wf_small (by omega) (by omega), wf_one⟩
      simp only [World.size_alloc] at hl0 hl1
      by_cases hu0 : uses js ((k : Int), 0) = 1
      · have hn0 : ((uses js ((k : Int), 0) : Int) != 1) = false := by rw [hu0]; rfl
        have HU0 := hide hu0
        clear hu0
        by_cases hu1 : uses js ((k : Int), 1) = 1
        · have hn1 : ((uses js ((k : Int), 1) : Int) != 1) = false := by rw [hu1]; rfl
          have HU1 := hide hu1
          clear hu1
          go_wp2_with fail
          refine ⟨⟨k + 1, by omega, by go_num, ?_⟩, by simp [intOf]; omega⟩
          intro j hj
          by_cases e : j = k
          · subst e; exact pcBad5_false HU0.out HU1.out
          · exact HA.out j (by omega)
        · have hn1 : ((uses js ((k : Int), 1) : Int) != 1) = true := by rw [bne_iff_ne]; omega
          have HU1 := hide hu1
          clear hu1
          go_wp2_with fail
          go_ret
          exact ⟨ret_i (firstI_some hlt (pcBad5_true1 HU1.out) HA.out).symm, hb2⟩
      · have hn0 : ((uses js ((k : Int), 0) : Int) != 1) = true := by rw [bne_iff_ne]; omega
        have HU0 := hide hu0
        clear hu0
        go_wp2_with fail
        go_ret
        exact ⟨ret_i (firstI_some hlt (pcBad5_true0 HU0.out) HA.out).symm, hb2⟩
    · go_wp2_with fail
      go_ret
      exact ⟨ret_i (firstI_none (fun j hj => HA.out j (by omega))).symm, hb2⟩
end Go.Proofs.YtldafgbhjpfboaaGreat

namespace Go.Proofs.YtldafgbhjpfboaaGreat
open Go.RowKit
set_option maxHeartbeats 1000000

theorem l1joint_any (a a' : Option Addr) (n cap cap' : Nat) (js : List Jt) (k : Nat) (hk : k < js.length) (w : World) (hn : n ≤ 1048576) (hl : js.length ≤ 1048576) (hm : ∀ j ∈ js, j.name.size ≤ 1048576 ∧ j.ends.length ≤ 1048576) (hj : JtsAt w a' js) :
    Calls Tryz.prog 89 #[.agg #[.slice a n cap, .slice a' js.length cap'], .int .i64 k] w fun e w' =>
    e = .returned (.int .i64 (jcode n js k)) ∧ Below w.heap.size w w' := by
  obtain ⟨b, off, ea, ec, rfl, c0, c1, c2, ce⟩ := hj k hk
  have hblt := cell_lt c0
  have hmk := hm _ (List.getElem_mem hk)
  have HJ := hide hj
  have HM := hide hm
  have CE := hide ce
  have H3 := hide (jtBad3_eq (n := n) hk)
  have H4 := hide (jtBad4_eq hk)
  clear hj hm ce
  cases h1 : inR js[k].kind 1 4
  · have HK := hide h1
    clear h1
    go_enter Tryz.func89, Tryz.ntmps89
    go_wp2_with fail
    refine (l1in_any _ _ _ _).mono ?_
    rintro e w1 ⟨rfl, rfl⟩
    rw [HK.out]
    go_wp2_with fail
    go_ret
    refine ⟨ret_i ?_, ((Below.refl _ _).alloc (Nat.le_refl _) _).alloc (by simp) _⟩
    simp [jcode, H3.out, HK.out]
  have HK := hide h1
  have hkr : 1 ≤ js[k].kind ∧ js[k].kind ≤ 4 := by simpa [inR] using h1
  clear h1
  cases h2 : ((js[k].ends.length : Int) != js[k].kind)
  case true =>
    have H2 := hide h2
    go_enter Tryz.func89, Tryz.ntmps89
    go_wp2_with fail
    refine (l1in_any _ _ _ _).mono ?_
    rintro e w1 ⟨rfl, rfl⟩
    rw [HK.out]
    go_wp2_with fail
    go_ret
    refine ⟨ret_i ?_, ((Below.refl _ _).alloc (Nat.le_refl _) _).alloc (by simp) _⟩
    simp only [jcode, H3.out, H2.out]
    simp
  case false =>
    have H2 := hide h2
    go_enter Tryz.func89, Tryz.ntmps89
    go_wp2_with fail
    refine (l1in_any _ _ _ _).mono ?_
    rintro e w1 ⟨rfl, rfl⟩
    rw [HK.out]
    go_wp2_with fail
    have hbW : Below w.heap.size w ((w.alloc (.cells #[.slice a n cap, .slice (some ⟨b, off, none⟩) js.length cap'] 26)).alloc (.cells #[.int .i64 js[k].kind, .string js[k].name, .slice ea js[k].ends.length ec] 79)) := ((Below.refl _ _).alloc (Nat.le_refl _) _).alloc (by simp) _
    go_loopw [29] (fun i wr => ∃ (t : Nat), t ≤ js[k].ends.length ∧ i = .int .i64 t ∧ (∀ u (_ : u < t) (hu : u < js[k].ends.length), endOk n js[k].ends[u] = true) ∧ wr.cell? ⟨w.heap.size, 0, none⟩ = some (.slice a n cap) ∧ wr.cell? ⟨w.heap.size, 1, none⟩ = some (.slice (some ⟨b, off, none⟩) js.length cap') ∧ wr.cell? ⟨w.heap.size + 1, 0, none⟩ = some (.int .i64 js[k].kind) ∧ wr.cell? ⟨w.heap.size + 1, 1, none⟩ = some (.string js[k].name) ∧ wr.cell? ⟨w.heap.size + 1, 2, none⟩ = some (.slice ea js[k].ends.length ec) ∧ Below w.heap.size w wr) (fun i _ => js[k].ends.length - (intOf i).toNat)
    case atStart => exact ⟨0, Nat.zero_le _, rfl, by intro u hu; omega, by simp [go_sem], by simp [go_sem], by simp [go_sem], by simp [go_sem], by simp [go_sem], hbW⟩
    case round =>
      obtain ⟨t, ht, rfl, hall, n0, n1, j0, j1, j2, hb⟩ := hrel
      have HA := hide hall
      clear hall
      have hz0 := cell_lt n0
      have hz1 := cell_lt j0
      by_cases hti : t < js[k].ends.length
      · obtain ⟨b2, off2, rfl, d0, d1⟩ := (EndsAt.later CE.out hb) t hti
        go_wp2_with fail
        refine (l1end_any _ _ _ _ _ _ _ _ _ hn).mono ?_
        rintro e w1 ⟨rfl, hb1⟩
        have hbA : Below wr.heap.size wr w1 := ((Below.refl _ _).alloc (Nat.le_refl _) _).trans (hb1.mono (by simp))
        have n0' := cell_later' hbA n0
        have n1' := cell_later' hbA n1
        have j0' := cell_later' hbA j0
        have j1' := cell_later' hbA j1
        have j2' := cell_later' hbA j2
        have hb2 := hb.trans (hbA.mono hb.size)
        cases he : endOk n (js[k].ends[t].1, js[k].ends[t].2)
        · have HE := hide he
          clear he
          go_wp2_with fail
          go_ret
          refine ⟨ret_i ?_, hb2⟩
          have hany : js[k].ends.any (fun e => !endOk n e) = true := any_true' hti (by simp; exact HE.out)
          simp only [jcode, H3.out, hany]
          simp
        · have HE := hide he
          clear he
          go_wp2_with fail
          go_roundw
          case rel =>
            refine ⟨t + 1, by omega, by go_num, ?_, n0', n1', j0', j1', j2', hb2⟩
            intro u hu hu'
            by_cases e : u = t
            · subst e; exact HE.out
            · exact HA.out u (by omega) hu'
          case measure => simp [intOf]; omega
      · have hb3 : jtBad3 n js k = false := by
          rw [H3.out, HK.out, H2.out, any_false' (l := js[k].ends) (p := fun e => !endOk n e) (fun u hu => by simp [HA.out u (by omega) hu])]; rfl
        have HB3 := hide hb3
        clear hb3
        by_cases hk3 : js[k].kind < 3
        · cases hnm : (js[k].name.toList.isEmpty)
          · have HNM := hide hnm
            have hnm' : (!js[k].name.toList.isEmpty) = true := by rw [hnm]; rfl
            clear hnm
            go_wp2_with fail
            go_ret
            refine ⟨ret_i ?_, hb⟩
            rw [jcode, HB3.out, H4.out, if_pos hk3, HNM.out]; rfl
          · have HNM := hide hnm
            have hnm' : (!js[k].name.toList.isEmpty) = false := by rw [hnm]; rfl
            clear hnm
            go_wp2_with fail
            go_ret
            refine ⟨ret_i ?_, hb⟩
            rw [jcode, HB3.out, H4.out, if_pos hk3, HNM.out]; rfl
        · go_wp2_with fail
          refine (l1name_any js[k].name _ hmk.1).mono ?_
          rintro e w1 ⟨rfl, rfl⟩
          cases hnm : nm js[k].name
          · have HNM := hide hnm
            clear hnm
            go_wp2_with fail
            go_ret
            refine ⟨ret_i ?_, hb⟩
            rw [jcode, HB3.out, H4.out, if_neg (show ¬ js[k].kind < 3 by omega), HNM.out]; rfl
          · have HNM := hide hnm
            clear hnm
            go_wp2_with fail
            go_loopw [8] (fun i wi => ∃ (t : Nat), t ≤ k ∧ i = .int .i64 t ∧ (∀ u (_ : u < t) (hu : u < js.length), (js[u].name.toList == js[k].name.toList) = false) ∧ Below wr.heap.size wr wi) (fun i _ => k - (intOf i).toNat)
            case atStart => exact ⟨0, Nat.zero_le _, rfl, by intro u hu; omega, Below.refl _ _⟩
            case round =>
              obtain ⟨t2, ht2, rfl, hall2, hb2⟩ := hrel
              have HA2 := hide hall2
              clear hall2
              by_cases hti2 : t2 < k
              · obtain ⟨b2, off2, ea2, ec2, hab, d0, d1, d2, _⟩ := (JtsAt.later HJ.out (hb.trans (hb2.mono hb.size))) t2 (by omega)
                obtain ⟨rfl, rfl⟩ : b = b2 ∧ off = off2 := by simpa using hab
                clear hab
                have m1 := cell_later' hb2 n1
                have m2 := cell_later' hb2 j1
                go_wp2_with fail
                go_quiet (fail)
                go_wp2_with fail
                · go_ret
                  have heq : (js[t2].name.toList == js[k].name.toList) = true := by assumption
                  refine ⟨ret_i ?_, below_drewN (hb.trans (hb2.mono hb.size)) _⟩
                  rw [jcode, HB3.out, H4.out, if_neg (show ¬ js[k].kind < 3 by omega), HNM.out, any_take_true (l := js) (k := k) (u := t2) hti2 (by omega) heq]; rfl
                · have heq : (js[t2].name.toList == js[k].name.toList) = false := by assumption
                  refine ⟨⟨t2 + 1, by omega, by go_num, ?_, below_drewN hb2 _⟩, by simp [intOf]; omega⟩
                  intro u hu hu'
                  by_cases e : u = t2
                  · subst e; exact heq
                  · exact HA2.out u (by omega) hu'
              · go_wp2_with fail
                go_ret
                refine ⟨ret_i ?_, hb.trans (hb2.mono hb.size)⟩
                rw [jcode, HB3.out, H4.out, if_neg (show ¬ js[k].kind < 3 by omega), HNM.out, any_take_false (l := js) (k := k) (fun u hu hu' => HA2.out u (by omega) hu')]; rfl
end Go.Proofs.YtldafgbhjpfboaaGreat
