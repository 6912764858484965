import Derived.Test.YtokhbnlpifmjkaaDoorImE
namespace Go.Proofs.YtokhbnlpifmjkaaDoor
open Go.RowKit
set_option maxHeartbeats 1000000

theorem SE.mono {w : World} {b n n' g} (h : SE w b n g) (hn : n ≤ n') : SE w b n' g := by
  obtain ⟨D, h, h2⟩ := h
  exact ⟨D, h.mono hn, h2⟩

theorem seatEnds_succ {g j es} {i : Nat} (h : i < es.length) : seatEnds g j es (i + 1) = seatAdd (seatEnds g j es i) es[i] j i := by
  simp [seatEnds, h]
theorem seatTo_succ {js : List Jt} {k : Nat} (h : k < js.length) : seatTo js (k + 1) = seatEnds (seatTo js k) k js[k].ends js[k].ends.length := by
  simp [seatTo, h]

theorem field2 (a b c : Int) (w : World) : (Instr.field 99 (.agg #[.int .i64 a, .int .i64 b, .int .i64 c]) 2).run Tryd.prog w = .ok (.int .i64 c) w := by kernel_rfl

def times (g : Int × Int → Option (Int × Int × Int)) (e : Int × Int) : Int := ((g e).getD (0, 0, 0)).2.2

theorem seatsOf_any (a : Option Addr) (cap : Nat) (js : List Jt) (w : World) (hl : js.length ≤ 1048576) (hm : ∀ j ∈ js, j.ends.length ≤ 1048576) (hw : ∀ j ∈ js, ∀ e ∈ j.ends, Wf2 e) (hj : JtsAt w a js) :
    Calls Tryd.prog 50 #[.slice a js.length cap] w fun e w' =>
    e = .returned (.map (some w.heap.size)) ∧ (∃ n, SE w' w.heap.size n (seatTo js js.length)) ∧ Below w.heap.size w w' := by
  have HJ := hide hj
  have HM := hide hm
  have HW := hide hw
  clear hj hm hw
  have hmm := @run_makeMap Tryd.prog
  go_enter Tryd.func50, Tryd.ntmps50
  go_wp2_with fail
  go_loopw [4, 5, 6, 7, 11] (fun _ _ _ _ i wr => ∃ (k n : Nat), k ≤ js.length ∧ n ≤ k * 1048576 ∧ i = .int .i64 k ∧ Hid (SE wr w.heap.size n (seatTo js k)) ∧ Hid (∀ e, 0 ≤ times (seatTo js k) e ∧ times (seatTo js k) e ≤ k * 1048576) ∧ Below w.heap.size w wr) (fun _ _ _ _ i _ => js.length - (intOf i).toNat)
  case atStart => exact ⟨0, 0, Nat.zero_le _, Nat.zero_le _, rfl, SE.made w, fun e => by simp [times, seatTo], (Below.refl _ _).alloc (Nat.le_refl _) _⟩
  case round =>
    obtain ⟨k, n, hk, hnk, rfl, hSE, hT, hb⟩ := hrel
    clear hmm
    by_cases hlt : k < js.length
    · obtain ⟨b, off, ea, ec, rfl, cw0, cw1, cw2, ce⟩ := HJ.out k hlt
      have CE := hide ce
      have c0 := cell_later' hb cw0
      have c1 := cell_later' hb cw1
      have c2 := cell_later' hb cw2
      have hblt := cell_lt c0
      clear cw0 cw1 cw2
      have hm := HM.out _ (List.getElem_mem hlt)
      clear ce
      go_wp2_with fail
      have hbA : Below wr.heap.size wr (wr.alloc (.cells #[.int .i64 js[k].kind, .string js[k].name, .slice ea js[k].ends.length ec] 43)) := (Below.refl _ _).alloc (Nat.le_refl _) _
      go_loopw [6, 7, 19] (fun _ _ i wi => ∃ (t n : Nat), t ≤ js[k].ends.length ∧ n ≤ k * 1048576 + t ∧ i = .int .i64 t ∧ Hid (SE wi w.heap.size n (seatEnds (seatTo js k) k js[k].ends t)) ∧ Hid (∀ e, 0 ≤ times (seatEnds (seatTo js k) k js[k].ends t) e ∧ times (seatEnds (seatTo js k) k js[k].ends t) e ≤ k * 1048576 + t) ∧ Below w.heap.size w wi) (fun _ _ i _ => js[k].ends.length - (intOf i).toNat)
      case atStart =>
        refine ⟨0, n, Nat.zero_le _, Nat.le_add_right_of_le hnk, rfl, ?_, ?_, hb.trans (hbA.mono hb.size)⟩
        · exact hSE.out.of_block (hbA.block _ hSE.out.lt)
        · intro e
          have := hT.out e
          have h0 : seatEnds (seatTo js k) (k : Int) js[k].ends 0 = seatTo js k := rfl
          rw [h0]
          omega
      case round =>
        obtain ⟨t, n', ht, hnt, rfl, hSEi, hTi, hbi⟩ := hrel
        by_cases hti : t < js[k].ends.length
        · obtain ⟨b2, off2, rfl, d0, d1⟩ := (CE.out.later hbi) t hti
          have hb2lt := cell_lt d0
          have hwf : Wf2 (js[k].ends[t].1, js[k].ends[t].2) := HW.out _ (List.getElem_mem hlt) _ (List.getElem_mem hti)
          have hbB : Below wr.heap.size wr (wr.alloc (.cells #[.int .i64 js[k].ends[t].1, .int .i64 js[k].ends[t].2] 46)) := (Below.refl _ _).alloc (Nat.le_refl _) _
          have hSEj := hSEi.out.of_block (w' := (wr.alloc (.cells #[.int .i64 js[k].ends[t].1, .int .i64 js[k].ends[t].2] 46)).drew) (hbB.block _ hSEi.out.lt)
          have hlook := hSEj.look js[k].ends[t].1 js[k].ends[t].2 hwf
          have htm := hTi.out js[k].ends[t]
          unfold times at htm
          generalize hgg : (seatEnds (seatTo js k) k js[k].ends t js[k].ends[t]).getD (0, 0, 0) = tt at htm
          have HGG := hide hgg
          have hlook' : (Instr.lookup 96 (.map (some w.heap.size)) (.agg #[.int .i64 js[k].ends[t].1, .int .i64 js[k].ends[t].2]) false).run Tryd.prog (wr.alloc (.cells #[.int .i64 js[k].ends[t].1, .int .i64 js[k].ends[t].2] 46)).drew = .ok (.agg #[.int .i64 tt.1, .int .i64 tt.2.1, .int .i64 tt.2.2]) (wr.alloc (.cells #[.int .i64 js[k].ends[t].1, .int .i64 js[k].ends[t].2] 46)).drew := by
            rw [hlook, ← hgg]; rfl
          obtain ⟨w2, hput, hSE2, hg⟩ := hSEj.put (by unfold maxLen; omega) js[k].ends[t].1 js[k].ends[t].2 hwf (k, t, tt.2.2 + 1)
          unfold seatV at hput
          have HSE2 := hide hSE2
          have HG := hide hg
          have HTM := hide htm
          clear hlook hgg hSEj hg hSE2
          have hfld := field2
          go_wp2_with fail
          go_region
          go_wp2_with fail
          go_roundw
          case rel =>
            refine ⟨t + 1, n' + 1, by omega, by omega, by go_num, ?_, ?_, ?_⟩
            · show SE _ _ _ _
              rw [seatEnds_succ hti]
              unfold seatAdd
              rw [HGG.out]
              exact HSE2.out
            · intro e
              rw [seatEnds_succ hti]
              have h1 := hTi.out e
              have h2 := HTM.out
              by_cases he : e = js[k].ends[t]
              · have : times (seatAdd (seatEnds (seatTo js k) k js[k].ends t) js[k].ends[t] k t) e = tt.2.2 + 1 := by
                  unfold times seatAdd; rw [if_pos he, HGG.out]; rfl
                rw [this]
                omega
              · have : times (seatAdd (seatEnds (seatTo js k) k js[k].ends t) js[k].ends[t] k t) e = times (seatEnds (seatTo js k) k js[k].ends t) e := by
                  unfold times seatAdd; rw [if_neg he]
                rw [this]
                omega
            · exact (hbi.alloc hbi.size _).drew.grown HG.out (by have := hbi.size; simp; omega) (fun j hj => by cases hj; exact Nat.le_refl _)
          case measure => simp [intOf]; omega
        · go_wp2_with fail
          go_roundw
          case rel =>
            obtain rfl : t = js[k].ends.length := by omega
            refine ⟨k + 1, n', by omega, by omega, by go_num, ?_, ?_, hbi⟩
            · rw [seatTo_succ hlt]; exact hSEi
            · rw [seatTo_succ hlt]
              intro e
              have := hTi.out e
              omega
          case measure => simp [intOf]; omega
    · go_wp2_with fail
      go_ret
      refine ⟨rfl, ⟨n, ?_⟩, hb⟩
      have h := hSE.out
      rwa [show k = js.length by omega] at h
end Go.Proofs.YtokhbnlpifmjkaaDoor
