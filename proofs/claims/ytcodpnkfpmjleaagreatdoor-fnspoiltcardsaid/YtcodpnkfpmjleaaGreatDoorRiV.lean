/- impl.readText. Own work. -/
import Derived.Test.YtcodpnkfpmjleaaGreatDoorMxAZ
namespace Go.Proofs.YtcodpnkfpmjleaaGreatDoor
open Go.RowKit Go.Maps Go.Sort Go.Shelf
set_option maxHeartbeats 8000000
set_option maxRecDepth 100000

def isSl (v : Value) : Prop := ∃ z n c, v = .slice z n c
/-- What readText answers. -/
def TextPost (T : Int × Int × Nt) (w : World) (e : Ending) (w' : World) : Prop := ∃ pv jv, isSl pv ∧ isSl jv ∧ Below w.heap.size w w' ∧
  ((T.1 = 0 ∧ e = .returned (.tuple #[.agg #[pv, jv], .nilIface]) ∧ ∃ js, w'.ownsRow w.heap.size 63 4 pv T.2.2.pcs.length (pcCells T.2.2.pcs) ∧ KR w' w.heap.size jv js ∧ js.map (fun t : Jr => t.jt) = T.2.2.jts) ∨ (T.1 ≠ 0 ∧ e = .returned (.tuple #[.agg #[pv, jv], errV T.1 T.2.1]) ∧ T.2.2 = ⟨[], []⟩))
theorem res_text {tmps : Array Value} {A : Nat} {W : World} {u0 u1 ev : Value} (h2 : tmps[2]? = some (.pointer (some ⟨A, 0, none⟩))) (h3 : tmps[3]? = some (.pointer (some ⟨A + 1, 0, none⟩))) (c0 : W.cell? ⟨A, 0, none⟩ = some u0) (c1 : W.cell? ⟨A, 1, none⟩ = some u1) (ce : W.cell? ⟨A + 1, 0, none⟩ = some ev) : (results Tryz.f27 tmps).run Tryz.prog W = .ok (.tuple #[.agg #[u0, u1], ev]) W := by
  simp [results, Tryz.results27, go_sem, h2, h3, c0, c1, ce]
def dfrD (A : Nat) : Deferred := { target := .fn (.func 62) #[.pointer (some ⟨A, 0, none⟩), .pointer (some ⟨A + 1, 0, none⟩)], args := #[] }
/-- A panic of ours goes through what is deferred. -/
theorem leave_left {tmps : Array Value} {A : Nat} {w W : World} {T : Int × Int × Nt} (hA : A = w.heap.size) (h2 : tmps[2]? = some (.pointer (some ⟨A, 0, none⟩))) (h3 : tmps[3]? = some (.pointer (some ⟨A + 1, 0, none⟩))) (hN : NBo A W) (hB : Below A w W) {code line : Int} (hT : T = (code, line, ⟨[], []⟩)) (hc : code ≠ 0) :
    LeavesInM Fence.wide 9 Tryz.prog Tryz.f27 tmps (TextPost T w) [dfrD A] (.panicking (leaveC code line)) W := by
  refine ⟨by simp, .inr ⟨fun h => by simp [Fence.wide] at h, _, _, 62, #[.pointer (some ⟨A, 0, none⟩), .pointer (some ⟨A + 1, 0, none⟩)], rfl, by simp [dfrD, invoke, go_sem], fun _ _ => trivial, (left_in 8 A (A + 1) code line W _ _ _ hN.n0 hN.n1 hN.e0 hN.fn hN.fe (by omega)).mono ?_⟩⟩
  rintro e u' w' ⟨⟨v, rfl⟩, rfl, c0, c1, ce, hon⟩
  subst hT
  subst hA
  exact ⟨_, res_text h2 h3 c0 c1 ce, _, _, ⟨_, _, _, rfl⟩, ⟨_, _, _, rfl⟩, hon.below hB (fun b e => by omega) hB.size, .inr ⟨hc, rfl, rfl⟩⟩
/-- A return goes through what is deferred. -/
theorem leave_idle {tmps : Array Value} {A : Nat} {W : World} {R : Ending → World → Prop} {u0 u1 ev : Value} (h2 : tmps[2]? = some (.pointer (some ⟨A, 0, none⟩))) (h3 : tmps[3]? = some (.pointer (some ⟨A + 1, 0, none⟩))) (c0 : W.cell? ⟨A, 0, none⟩ = some u0) (c1 : W.cell? ⟨A, 1, none⟩ = some u1) (ce : W.cell? ⟨A + 1, 0, none⟩ = some ev) (hR : R (.returned (.tuple #[.agg #[u0, u1], ev])) W) :
    LeavesInM Fence.wide 9 Tryz.prog Tryz.f27 tmps R [dfrD A] .returning W := by
  refine ⟨by simp, .inr ⟨fun h => by simp [Fence.wide] at h, _, _, 62, #[.pointer (some ⟨A, 0, none⟩), .pointer (some ⟨A + 1, 0, none⟩)], rfl, by simp [dfrD, invoke, go_sem], fun _ _ => trivial, (idle_in 8 A (A + 1) W).mono ?_⟩⟩
  rintro e u' w' ⟨⟨v, rfl⟩, rfl, rfl⟩
  exact ⟨_, res_text h2 h3 c0 c1 ce, hR⟩
theorem blk_new {W : World} {o : Obj} {k : Nat} (h : k = W.heap.size) : (W.alloc o).heap[k]? = some o := by subst h; exact World.alloc_heap_new W o
theorem blk_old {W : World} {o x : Obj} {k : Nat} (h : W.heap[k]? = some x) : (W.alloc o).heap[k]? = some x := (Below.heap_alloc _ _ k (Array.getElem?_eq_some_iff.1 h).1).trans h
def rtW (t : Bl) (w : World) : World := ((((((((w.alloc (.cells #[.slice none 0 0, .slice none 0 0] 26)).alloc (.cells #[.nilIface] 77)).alloc (.map #[] 0)).alloc (.map #[] 0)).alloc (.map #[] 0)).alloc (.cells #[.int .i64 0, .slice none 0 0, .slice none 0 0, .map (some (w.heap.size + 1 + 1)), .map (some (w.heap.size + 1 + 1 + 1)), .map (some (w.heap.size + 1 + 1 + 1 + 1))] 129)).alloc (.cells #[.string (sb t)] 9)).alloc (.cells #[.string ⟨#[10]⟩] 9)).alloc (.cells #[.int .i64 0] 3)
theorem rtW_size (t : Bl) (w : World) : (rtW t w).heap.size = w.heap.size + 9 := by simp [rtW]
theorem rtW_below (t : Bl) (w : World) : Below w.heap.size w (rtW t w) := by
  unfold rtW
  exact ((((((((bS0 w _).alloc (by simp <;> omega) _).alloc (by simp <;> omega) _).alloc (by simp <;> omega) _).alloc (by simp <;> omega) _).alloc (by simp <;> omega) _).alloc (by simp <;> omega) _).alloc (by simp <;> omega) _).alloc (by simp <;> omega) _
theorem rtW_blocks (t : Bl) (w : World) : (rtW t w).heap[w.heap.size]? = some (.cells #[.slice none 0 0, .slice none 0 0] 26 (0, 0)) ∧ (rtW t w).heap[w.heap.size + 1]? = some (.cells #[.nilIface] 77 (0, 0)) ∧ (rtW t w).heap[w.heap.size + 2]? = some (.map #[] 0) ∧ (rtW t w).heap[w.heap.size + 3]? = some (.map #[] 0) ∧ (rtW t w).heap[w.heap.size + 4]? = some (.map #[] 0) ∧ (rtW t w).heap[w.heap.size + 5]? = some (.cells #[.int .i64 0, .slice none 0 0, .slice none 0 0, .map (some (w.heap.size + 1 + 1)), .map (some (w.heap.size + 1 + 1 + 1)), .map (some (w.heap.size + 1 + 1 + 1 + 1))] 129 (0, 0)) ∧ (rtW t w).heap[w.heap.size + 6]? = some (.cells #[.string (sb t)] 9 (0, 0)) ∧ (rtW t w).heap[w.heap.size + 7]? = some (.cells #[.string ⟨#[10]⟩] 9 (0, 0)) ∧ (rtW t w).heap[w.heap.size + 8]? = some (.cells #[.int .i64 0] 3 (0, 0)) := by
  unfold rtW
  exact ⟨blk_old (blk_old (blk_old (blk_old (blk_old (blk_old (blk_old (blk_old (blk_new (by simp))))))))), blk_old (blk_old (blk_old (blk_old (blk_old (blk_old (blk_old (blk_new (by simp)))))))), blk_old (blk_old (blk_old (blk_old (blk_old (blk_old (blk_new (by simp))))))), blk_old (blk_old (blk_old (blk_old (blk_old (blk_new (by simp)))))), blk_old (blk_old (blk_old (blk_old (blk_new (by simp))))), blk_old (blk_old (blk_old (blk_new (by simp)))), blk_old (blk_old (blk_new (by simp))), blk_old (blk_new (by simp)), blk_new (by simp)⟩
theorem map0_PI {W : World} {b : Nat} (h : W.heap[b]? = some (.map #[] 0)) : PI W b 0 [] := by
  obtain ⟨D, ⟨es, clock, hb, h2⟩, h3⟩ := PI.made W
  have e : es = #[] ∧ clock = 0 := by
    have := (World.alloc_heap_new W (.map #[] 0)).symm.trans hb
    simpa [eq_comm] using this
  obtain ⟨rfl, rfl⟩ := e
  exact ⟨D, ⟨#[], 0, h, h2⟩, h3⟩
theorem map0_EI {W : World} {b : Nat} (h : W.heap[b]? = some (.map #[] 0)) : EI W b 0 [] := by
  obtain ⟨D, ⟨es, clock, hb, h2⟩, h3⟩ := EI.made W
  have e : es = #[] ∧ clock = 0 := by
    have := (World.alloc_heap_new W (.map #[] 0)).symm.trans hb
    simpa [eq_comm] using this
  obtain ⟨rfl, rfl⟩ := e
  exact ⟨D, ⟨#[], 0, h, h2⟩, h3⟩
theorem map0_SI {W : World} {b : Nat} (h : W.heap[b]? = some (.map #[] 0)) : SI W b 0 [] := by
  obtain ⟨D, ⟨es, clock, hb, h2⟩, h3⟩ := SI.made W
  have e : es = #[] ∧ clock = 0 := by
    have := (World.alloc_heap_new W (.map #[] 0)).symm.trans hb
    simpa [eq_comm] using this
  obtain ⟨rfl, rfl⟩ := e
  exact ⟨D, ⟨#[], 0, h, h2⟩, h3⟩
theorem box_cells {W : World} {b : Nat} {cs : Array Value} {T : TypeId} (h : W.heap[b]? = some (.cells cs T (0, 0))) : (∀ k v, cs[k]? = some v → W.cell? ⟨b, k, none⟩ = some v) ∧ ∀ o, W.frozen? ⟨b, o, none⟩ = false :=
  ⟨fun k v hv => by simp [World.cell?, h, hv], fun o => by simp [World.frozen?, h]⟩
theorem rt_start (t : Bl) (w : World) (X : Xs) (hM : MX w) (hT : readG ⟨[], []⟩ 0 (linesL t) = toldP (sb t)) : RtAt w w.heap.size X (linesL t) (toldP (sb t)) [] (((rtW t w).alloc (.deferred (some []))).alloc (.loop (rtRec X (w.heap.size + 5) (w.heap.size + 9) .ready none))) ∧ SpB (w.heap.size + 7) (w.heap.size + 6) (w.heap.size + 8) t (((rtW t w).alloc (.deferred (some []))).alloc (.loop (rtRec X (w.heap.size + 5) (w.heap.size + 9) .ready none))) := by
  obtain ⟨k0, k1, k2, k3, k4, k5, k6, k7, k8⟩ := rtW_blocks t w
  have hs := rtW_size t w
  have hb : Below w.heap.size w (((rtW t w).alloc (.deferred (some []))).alloc (.loop (rtRec X (w.heap.size + 5) (w.heap.size + 9) .ready none))) := ((rtW_below t w).alloc (rtW_below t w).size _).alloc (by have := (rtW_below t w).size; simp; omega) _
  have old : ∀ {k : Nat} {o : Obj}, (rtW t w).heap[k]? = some o → (((rtW t w).alloc (.deferred (some []))).alloc (.loop (rtRec X (w.heap.size + 5) (w.heap.size + 9) .ready none))).heap[k]? = some o := fun h => blk_old (blk_old h)
  have hK : (((rtW t w).alloc (.deferred (some []))).alloc (.loop (rtRec X (w.heap.size + 5) (w.heap.size + 9) .ready none))).heap[w.heap.size + 9]? = some (.deferred (some [])) := blk_old (blk_new (by omega))
  have hL : (((rtW t w).alloc (.deferred (some []))).alloc (.loop (rtRec X (w.heap.size + 5) (w.heap.size + 9) .ready none))).heap[w.heap.size + 10]? = some (.loop (rtRec X (w.heap.size + 5) (w.heap.size + 9) .ready none)) := blk_new (by simp; omega)
  have hsz : (((rtW t w).alloc (.deferred (some []))).alloc (.loop (rtRec X (w.heap.size + 5) (w.heap.size + 9) .ready none))).heap.size = w.heap.size + 11 := by simp; omega
  generalize ((rtW t w).alloc (.deferred (some []))).alloc (.loop (rtRec X (w.heap.size + 5) (w.heap.size + 9) .ready none)) = W at *
  have b0 := box_cells (old k0)
  have b1 := box_cells (old k1)
  have b5 := box_cells (old k5)
  have b6 := box_cells (old k6)
  have b7 := box_cells (old k7)
  have b8 := box_cells (old k8)
  refine ⟨⟨hL, hK, ⟨b0.1 0 _ rfl, b0.1 1 _ rfl, b1.1 0 _ rfl, b0.2, b1.2⟩, hM.later hb, ?_, hb, .slice none 0 0, .slice none 0 0, [], [], ?_, ?_, ?_, hT⟩, ⟨b7.1 0 _ rfl, b6.1 0 _ rfl, b8.1 0 _ rfl, b6.2 0⟩⟩
  · obtain ⟨m, hm⟩ := hM
    exact cell_lt hm
  · exact ⟨b5.1 0 _ rfl, b5.1 1 _ rfl, b5.1 2 _ rfl, b5.1 3 _ rfl, b5.1 4 _ rfl, b5.1 5 _ rfl, b5.2, World.ownsRow_nil _ _ _ _, KR.nil _ _, map0_PI (old k2), map0_EI (old k3), map0_SI (old k4), ⟨by omega, by omega, by omega, by omega⟩, ⟨by omega, by omega, by omega⟩, by omega⟩
  · exact ⟨by simp, by simp, by simp, by simp⟩
  · intro j hj
    simp at hj
/-- Where readText returns. -/
def QR (D A : Nat) (R : Value → Value → Value → World → Prop) : Exit → Act → World → Prop
  | .ret, a, w => a.defers = [{ target := .collected D, args := #[] }, dfrD A] ∧ a.tmps[2]? = some (.pointer (some ⟨A, 0, none⟩)) ∧ a.tmps[3]? = some (.pointer (some ⟨A + 1, 0, none⟩)) ∧ w.heap[D]? = some (.deferred (some [])) ∧ ∃ u0 u1 ev, w.cell? ⟨A, 0, none⟩ = some u0 ∧ w.cell? ⟨A, 1, none⟩ = some u1 ∧ w.cell? ⟨A + 1, 0, none⟩ = some ev ∧ R u0 u1 ev w
  | _, _, _ => False
theorem QR.body {D A : Nat} {R : Ending → World → Prop} (h0 : A ≠ D) (h1 : A + 1 ≠ D) : ∀ e a w, QR D A (fun u0 u1 ev W => R (.returned (.tuple #[.agg #[u0, u1], ev])) (W.putObj D (.deferred none))) e a w → bodyPostM Fence.wide 9 Tryz.prog Tryz.f27 R e a w := fun e a w h => by
  cases e with
  | ret =>
    obtain ⟨hd, h2, h3, hK, u0, u1, ev, c0, c1, ce, hR⟩ := h
    show LeavesInM Fence.wide 9 Tryz.prog Tryz.f27 a.tmps R a.defers .returning w
    rw [hd]
    have ho := On.putL w D (.deferred none)
    exact ⟨by simp, .inl ⟨_, _, rfl, run_takeDeferred hK, leave_idle h2 h3 (ho.cell (fun e => h0 e) c0) (ho.cell (fun e => h0 e) c1) (ho.cell (fun e => h1 e) ce) hR⟩⟩
  | normal => exact h.elim
  | panic c => exact h.elim
  | exit _ => exact h.elim
  | goto _ => exact h.elim
  | outgrown => exact h.elim
theorem whole_cases (N : Nt) : (wholeV N = .nilIface ∧ wholeR N = (0, 0, N)) ∨ (∃ code ln, wholeV N = .iface 81 (.agg #[.int .i64 code, .int .i64 ln]) ∧ wholeR N = (code, ln, ⟨[], []⟩) ∧ code ≠ 0) := by
  unfold wholeV wholeR
  by_cases h0 : (netOk N).1 = 0
  · left
    rw [if_pos h0, if_neg (by omega), if_neg (by simp [h0])]
    exact ⟨rfl, rfl⟩
  · right
    rw [if_neg h0]
    by_cases h5 : (netOk N).1 = 5
    · rw [if_pos h5, if_pos h5]
      exact ⟨7, (netOk N).2, rfl, rfl, by decide⟩
    · rw [if_neg h5, if_neg h5, if_pos h0]
      exact ⟨6, 0, rfl, rfl, by decide⟩
def wFin (A : Nat) (w5 : World) (pv jv V : Value) : World := ((w5.setCell ⟨A, 0, none⟩ pv).setCell ⟨A, 1, none⟩ jv).setCell ⟨A + 1, 0, none⟩ V
theorem text_fin {w w5 : World} {line : Int} {pv jv : Value} {ps : List Pc} {js : List Jr} (V : Value) (hR : RBk (w.heap.size + 11) w5 (w.heap.size + 5) line pv jv ps js (w.heap.size + 2) (w.heap.size + 3) (w.heap.size + 4)) (hB : Below w.heap.size w w5) (hK : w5.heap[w.heap.size + 9]? = some (.deferred (some []))) :
    (wFin w.heap.size w5 pv jv V).heap[w.heap.size + 9]? = some (.deferred (some [])) ∧ Below w.heap.size w ((wFin w.heap.size w5 pv jv V).putObj (w.heap.size + 9) (.deferred none)) ∧ ((wFin w.heap.size w5 pv jv V).putObj (w.heap.size + 9) (.deferred none)).ownsRow w.heap.size 63 4 pv ps.length (pcCells ps) ∧ KR ((wFin w.heap.size w5 pv jv V).putObj (w.heap.size + 9) (.deferred none)) w.heap.size jv js := by
  have h1 : On (fun b => b = w.heap.size ∨ b = w.heap.size + 1 ∨ b = w.heap.size + 9) w5 (wFin w.heap.size w5 pv jv V) := ((On.set w5 (b := w.heap.size) (o := 0) (.inl rfl) pv).trans (On.set _ (b := w.heap.size) (o := 1) (.inl rfl) jv)).trans (On.set _ (b := w.heap.size + 1) (o := 0) (.inr (.inl rfl)) V)
  have h2 := h1.trans ((On.putL (wFin w.heap.size w5 pv jv V) (w.heap.size + 9) (.deferred none)).mono (fun b _ e => .inr (.inr e)))
  refine ⟨?_, h2.below hB (fun b e => by omega) hB.size, owns_mono (owns_on hR.op h2 (fun g hg e => by omega)) (by omega), (hR.kr.on h2 (fun g hg e => by omega)).low_base (by omega)⟩
  unfold wFin
  rw [Below.heap_setCell _ _ _ _ (by show w.heap.size + 9 ≠ w.heap.size + 1; omega), Below.heap_setCell _ _ _ _ (by show w.heap.size + 9 ≠ w.heap.size; omega), Below.heap_setCell _ _ _ _ (by show w.heap.size + 9 ≠ w.heap.size; omega)]
  exact hK
theorem readText_any (t : Bl) (w : World) (hl : t.length ≤ 1048576) (hM : MX w) :
    Calls Tryz.prog 27 #[.string (sb t)] w (TextPost (toldP (sb t)) w) := by
  have hmf : ∀ fn first cap w, (Instr.makeFunc fn first cap).run Tryz.prog w = .ok (.func fn first cap) w := fun _ _ _ _ => rfl
  have hmm := @run_makeMap Tryz.prog
  have HM := hide hM
  clear hM
  refine calls_of_wpF (n := 9) Tryz.func27 rfl ?_
  simp only [Tryz.ntmps27, List.size_toArray, List.length_cons, List.length_nil, Nat.reduceAdd, Nat.reduceSub, Array.replicate_succ, Array.replicate_zero, List.push_toArray, List.append_toArray, List.nil_append, List.cons_append]
  refine wpF_seq (wpF_of_wp ?_)
  go_wp2_with fail
  refine wpF_seq (wpF_of_wp ?_)
  go_wp2_with fail
  refine wpF_seq (wpF_of_wp ?_)
  go_wp2_with fail
  have HN6 : Hid (NBo w.heap.size ((((((w.alloc (.cells #[.slice none 0 0, .slice none 0 0] 26)).alloc (.cells #[.nilIface] 77)).alloc (.map #[] 0)).alloc (.map #[] 0)).alloc (.map #[] 0)).alloc (.cells #[.int .i64 0, .slice none 0 0, .slice none 0 0, .map (some (w.heap.size + 1 + 1)), .map (some (w.heap.size + 1 + 1 + 1)), .map (some (w.heap.size + 1 + 1 + 1 + 1))] 129))) := ⟨by simp [go_sem], by simp [go_sem], by simp [go_sem], fun o => by simp [go_sem], fun o => by simp [go_sem]⟩
  by_cases h6 : t.length ≤ 65536
  · have g6 : decide (((sb t).size : Int) ≤ 65536) = true := decide_eq_true (by rw [sb_size]; omega)
    have HT := hide (show readG ⟨[], []⟩ 0 (linesL t) = toldP (sb t) by unfold toldP; rw [if_neg (by rw [sb_size]; omega), bs_sb])
    have hlb := linesG_bd t []
    have HLB := hide (show (linesL t).length ≤ 65537 ∧ ∀ x ∈ linesL t, x.length ≤ 65536 from ⟨by unfold linesL; omega, fun x hx => by have := hlb.2.2 x hx; simp at this; omega⟩)
    clear hlb
    refine wpF_seq (wpF_of_wp ?_)
    go_wp2_with (first
      | (go_at_call 63; refine (want_ok _ _ _).mono ?_; rintro e w3 ⟨⟨v3, rfl⟩, hw⟩; subst hw))
    refine wpF_seq (wpF_seq (wpF_of_wp ?_))
    go_wp2_with (first
      | (go_at_call 64; refine (splitSeq_any t _).mono ?_; rintro e w3 ⟨rfl, hw⟩; subst hw))
    refine wpF_block (wpF_range (n := 8) ?_)
    obtain ⟨X, hX⟩ : ∃ X : Xs, X = ⟨.string (sb t), .pointer (some ⟨w.heap.size, 0, none⟩), .pointer (some ⟨w.heap.size + 1, 0, none⟩), .func (.func 62) #[] #[.pointer (some ⟨w.heap.size, 0, none⟩), .pointer (some ⟨w.heap.size + 1, 0, none⟩)], .map (some (w.heap.size + 1 + 1)), .map (some (w.heap.size + 1 + 1 + 1)), .map (some (w.heap.size + 1 + 1 + 1 + 1)), .agg #[.int .i64 0, .slice none 0 0, .slice none 0 0, .map (some (w.heap.size + 1 + 1)), .map (some (w.heap.size + 1 + 1 + 1)), .map (some (w.heap.size + 1 + 1 + 1 + 1))], .string (sb t), .int .i64 (sb t).size, .bool true, v3, .string (sb t), .func (.func 122) #[] #[.pointer (some ⟨w.heap.size + 7, 0, none⟩), .pointer (some ⟨w.heap.size + 6, 0, none⟩), .pointer (some ⟨w.heap.size + 8, 0, none⟩)]⟩ := ⟨_, rfl⟩
    obtain ⟨hst, hsp⟩ := rt_start t w X HM.out HT.out
    have hs9 := rtW_size t w
    obtain ⟨W1, hW1⟩ : ∃ W1, ((rtW t w).alloc (.deferred (some []))).alloc (.loop (rtRec X (w.heap.size + 5) (w.heap.size + 9) .ready none)) = W1 := ⟨_, rfl⟩
    rw [hW1] at hst hsp
    refine ⟨w.heap.size + 10, [{ target := .collected (w.heap.size + 9), args := #[] }], W1, { target := .fn (.func 122) #[.pointer (some ⟨w.heap.size + 7, 0, none⟩), .pointer (some ⟨w.heap.size + 6, 0, none⟩), .pointer (some ⟨w.heap.size + 8, 0, none⟩)], args := #[.func (.yield (w.heap.size + 10)) #[] #[]] }, W1, 122,
      #[.func (.yield (w.heap.size + 10)) #[] #[], .pointer (some ⟨w.heap.size + 7, 0, none⟩), .pointer (some ⟨w.heap.size + 6, 0, none⟩), .pointer (some ⟨w.heap.size + 8, 0, none⟩)], W1, ?_, ?_, ?_, ?_⟩
    · have h := run_enterLoop_outer (P := Tryz.prog) (w := rtW t w) 27 (rtTmps X (w.heap.size + 5) undef undef) #[17] rtAssign rtBody
      rw [hs9] at h
      have e1 : ((rtW t w).alloc (.deferred (some []))).alloc (.loop { state := .ready, pending := none, fn := 27, tmps := rtTmps X (w.heap.size + 5) undef undef, params := #[17], assign := rtAssign, body := rtBody, defers := w.heap.size + 9 }) = W1 := hW1
      rw [e1] at h
      subst hX
      exact h
    · simp [resolve, go_sem]
    · simp [invoke, go_sem]
    · refine (splitIt_in 8 (by omega) (w.heap.size + 10) (w.heap.size + 7) (w.heap.size + 6) (w.heap.size + 8) (by omega) (by omega) t hl (RtAt w w.heap.size X (linesL t) (toldP (sb t))) (RtP w w.heap.size (toldP (sb t))) (fun pre W W' h hon => h.on hon)
        (fun pre x post W he hJ => rtYield _ w w.heap.size X (linesL t) (toldP (sb t)) HLB.out.1 HLB.out.2 pre x post W he hJ) W1 hsp hst).mono ?_
      rintro e W2 h2
      clear hst hsp hW1 HN6
      rcases h2 with ⟨⟨v0, rfl⟩, h2⟩ | ⟨c, rfl, h2⟩
      · have hend := run_endLoop (P := Tryz.prog) h2.L (by simp [rtRec])
        refine ⟨_, hend, ?_⟩
        obtain ⟨W3, hW3⟩ : ∃ W3, W2.putObj (w.heap.size + 10) (.loop { rtRec X (w.heap.size + 5) (w.heap.size + 9) .ready none with state := .exhausted }) = W3 := ⟨_, rfl⟩
        rw [hW3]
        have ho3 : On (· = w.heap.size + 10) W2 W3 := by rw [← hW3]; exact On.putL _ _ _
        obtain ⟨pv, jv, ps, js, hR, hN, hJ, hG⟩ := h2.rd
        have HR3 : Hid (RBk (w.heap.size + 11) W3 (w.heap.size + 5) (linesL t).length pv jv ps js (w.heap.size + 2) (w.heap.size + 3) (w.heap.size + 4)) := by rw [← hW3]; exact RBx.put hR h2.L loop_c loop_m
        have HK3 := hide (ho3.hold h2.K (by omega))
        have HN3 := hide (h2.nb.on ho3 (by omega) (by omega))
        have HB3 := hide (ho3.below h2.below (fun b e => by omega) h2.below.size)
        have HTW := hide (show toldP (sb t) = wholeR ⟨ps, js.map (fun x : Jr => x.jt)⟩ by rw [← hG, List.drop_length]; rfl)
        have hlen := HLB.out.1
        have hN1 := hN.pcs
        have hN2 := hN.jts
        have HNS := hide hN
        clear hR hJ hG hN ho3 hW3 hend h2 HT hX
        obtain ⟨pa, pcap, rfl, hPA⟩ := pcs_at_of HR3.out.op
        obtain ⟨ja, jcap, rfl, hJA⟩ := kjts_at_of HR3.out.kr
        have hbd := (Below.refl W3.heap.size W3).drew
        have hwe := wholeError_any pa ja ⟨ps, js.map (fun x : Jr => x.jt)⟩ pcap jcap W3.drew (by dsimp only at hN1 ⊢; omega) (fun p hp => by have := HNS.out.pn p hp; omega) (by dsimp only at hN2 ⊢; omega) (fun j hj => by have := HNS.out.jn j hj; omega) (hPA.later hbd) (hJA.later hbd)
        simp only [List.length_map] at hwe
        have HWE := hide hwe
        clear hwe hPA hJA
        have HNd := hide (HN3.out.on (On.of_below (S := fun _ => False) hbd) (fun h => h) (fun h => h))
        have HKd : Hid (W3.drew.heap[w.heap.size + 9]? = some (.deferred (some []))) := HK3.out
        have HBd := hide (chnB HB3.out hbd)
        have HRd := hide (RBx.later HR3.out hbd)
        have c1 := HR3.out.c1
        have c2 := HR3.out.c2
        have hlc := cell_lt c1
        clear hbd hN1 hN2 hlen
        refine wpF_of_wp ?_
        refine wp_weaken (Q := QR (w.heap.size + 9) w.heap.size (fun u0 u1 ev W => TextPost (toldP (sb t)) w (.returned (.tuple #[.agg #[u0, u1], ev])) (W.putObj (w.heap.size + 9) (.deferred none)))) ?_ (QR.body (by omega) (by omega))
        rcases whole_cases ⟨ps, js.map (fun x : Jr => x.jt)⟩ with ⟨hv, hp⟩ | ⟨code, ln, hv, hp, hc⟩
        · have HV := hide hv
          have HP := hide (HTW.out.trans hp)
          clear hv hp
          go_wp2_with fail
          go_region_law (first | (go_simp; go_at_call 66; refine HWE.out.mono ?_; rintro e w5 ⟨rfl, hb5⟩; rw [HV.out]; (have s0 := cell_later' hb5 HNd.out.n0); (have s1 := cell_later' hb5 HNd.out.n1); (have s2 := cell_later' hb5 HNd.out.e0); (have f0 : w5.frozen? ⟨w.heap.size, 0, none⟩ = false := (hb5.frozen (p := ⟨w.heap.size, 0, none⟩) (cell_lt HNd.out.n0)).trans (HNd.out.fn 0)); (have f1 : w5.frozen? ⟨w.heap.size, 1, none⟩ = false := (hb5.frozen (p := ⟨w.heap.size, 1, none⟩) (cell_lt HNd.out.n0)).trans (HNd.out.fn 1)); (have f2 : w5.frozen? ⟨w.heap.size + 1, 0, none⟩ = false := (hb5.frozen (p := ⟨w.heap.size + 1, 0, none⟩) (cell_lt HNd.out.e0)).trans (HNd.out.fe 0)); (have HB5 := hide (chnB HBd.out hb5)); (have HR5 := hide (RBx.later HRd.out hb5)); (have d1 : w5.cell? ⟨w.heap.size + 1 + 1 + 1 + 1 + 1, 1, none⟩ = some (.slice pa ps.length pcap) := HR5.out.c1); (have d2 : w5.cell? ⟨w.heap.size + 1 + 1 + 1 + 1 + 1, 2, none⟩ = some (.slice ja js.length jcap) := HR5.out.c2); (have HK5 := hide ((hb5.block (w.heap.size + 9) (Array.getElem?_eq_some_iff.1 HKd.out).1).trans HKd.out)); clear hb5))
          all_goals
            have HFN := hide (text_fin .nilIface HR5.out HB5.out HK5.out)
            go_wp2_with fail
            obtain ⟨q1, q2, q3, q4⟩ := HFN.out
            refine ⟨rfl, rfl, rfl, q1, .slice pa ps.length pcap, .slice ja js.length jcap, .nilIface, by simp [go_sem, s0], by simp [go_sem, s1], by simp [go_sem, s2], .slice pa ps.length pcap, .slice ja js.length jcap, ⟨_, _, _, rfl⟩, ⟨_, _, _, rfl⟩, q2, ?_⟩
            rw [HP.out]
            exact .inl ⟨rfl, rfl, js, q3, q4, rfl⟩
        · have HV := hide hv
          have HP := hide (HTW.out.trans hp)
          clear hv hp
          go_wp2_with fail
          go_region_law (first | (go_simp; go_at_call 66; refine HWE.out.mono ?_; rintro e w5 ⟨rfl, hb5⟩; rw [HV.out]; (have s0 := cell_later' hb5 HNd.out.n0); (have s1 := cell_later' hb5 HNd.out.n1); (have s2 := cell_later' hb5 HNd.out.e0); (have f0 : w5.frozen? ⟨w.heap.size, 0, none⟩ = false := (hb5.frozen (p := ⟨w.heap.size, 0, none⟩) (cell_lt HNd.out.n0)).trans (HNd.out.fn 0)); (have f1 : w5.frozen? ⟨w.heap.size, 1, none⟩ = false := (hb5.frozen (p := ⟨w.heap.size, 1, none⟩) (cell_lt HNd.out.n0)).trans (HNd.out.fn 1)); (have f2 : w5.frozen? ⟨w.heap.size + 1, 0, none⟩ = false := (hb5.frozen (p := ⟨w.heap.size + 1, 0, none⟩) (cell_lt HNd.out.e0)).trans (HNd.out.fe 0)); (have HB5 := hide (chnB HBd.out hb5)); (have HR5 := hide (RBx.later HRd.out hb5)); (have d1 : w5.cell? ⟨w.heap.size + 1 + 1 + 1 + 1 + 1, 1, none⟩ = some (.slice pa ps.length pcap) := HR5.out.c1); (have d2 : w5.cell? ⟨w.heap.size + 1 + 1 + 1 + 1 + 1, 2, none⟩ = some (.slice ja js.length jcap) := HR5.out.c2); (have HK5 := hide ((hb5.block (w.heap.size + 9) (Array.getElem?_eq_some_iff.1 HKd.out).1).trans HKd.out)); clear hb5))
          all_goals
            have HFN := hide (text_fin (.iface 81 (.agg #[.int .i64 code, .int .i64 ln])) HR5.out HB5.out HK5.out)
            go_wp2_with fail
            obtain ⟨q1, q2, q3, q4⟩ := HFN.out
            refine ⟨rfl, rfl, rfl, q1, .slice pa ps.length pcap, .slice ja js.length jcap, .iface 81 (.agg #[.int .i64 code, .int .i64 ln]), by simp [go_sem, s0], by simp [go_sem, s1], by simp [go_sem, s2], .slice pa ps.length pcap, .slice ja js.length jcap, ⟨_, _, _, rfl⟩, ⟨_, _, _, rfl⟩, q2, ?_⟩
            rw [HP.out]
            exact .inr ⟨hc, rfl, rfl⟩
      · obtain ⟨code, ln, rfl, hT2, hc⟩ := h2.told
        have ho := On.putL W2 (w.heap.size + 9) (.deferred none)
        exact ⟨by simp, .inl ⟨_, _, rfl, run_takeDeferred h2.K, leave_left rfl rfl rfl (h2.nb.on ho (by omega) (by omega)) (ho.below h2.below (fun b e => by omega) h2.below.size) hT2 hc⟩⟩
  · have g6 : decide (((sb t).size : Int) ≤ 65536) = false := decide_eq_false (by rw [sb_size]; omega)
    have HT := hide (show toldP (sb t) = (6, 0, ⟨[], []⟩) by unfold toldP; rw [if_pos (by rw [sb_size]; omega)])
    have HB6 : Hid (Below w.heap.size w ((((((w.alloc (.cells #[.slice none 0 0, .slice none 0 0] 26)).alloc (.cells #[.nilIface] 77)).alloc (.map #[] 0)).alloc (.map #[] 0)).alloc (.map #[] 0)).alloc (.cells #[.int .i64 0, .slice none 0 0, .slice none 0 0, .map (some (w.heap.size + 1 + 1)), .map (some (w.heap.size + 1 + 1 + 1)), .map (some (w.heap.size + 1 + 1 + 1 + 1))] 129))) := (((((bS0 w _).alloc (by simp <;> omega) _).alloc (by simp <;> omega) _).alloc (by simp <;> omega) _).alloc (by simp <;> omega) _).alloc (by simp <;> omega) _
    clear h6
    refine wpF_seq (wpF_of_wp ?_)
    go_wp2_with (first
      | (go_at_call 63; refine (want_noR (w.heap.size + 5) 6 0 _ (by simp [go_sem])).mono ?_; rintro e w3 ⟨rfl, hw⟩; subst hw))
    exact leave_left rfl rfl rfl HN6.out HB6.out HT.out (by decide)
end Go.Proofs.YtcodpnkfpmjleaaGreatDoor
