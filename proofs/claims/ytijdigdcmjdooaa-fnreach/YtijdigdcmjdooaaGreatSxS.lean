/- spec.Stretch. Own work, written by gen_stretch.py. -/
import Derived.Test.YtijdigdcmjdooaaGreatMxAU
import Derived.Test.YtijdigdcmjdooaaGreatWsB
import Derived.Test.YtijdigdcmjdooaaGreatDrS
import Derived.Deep.AppendLies
import Derived.Lib.QuietBelow
import Derived.BigQuiet
import Derived.Deep.CutRange
import Derived.Test.YtijdigdcmjdooaaGreatMxAK
namespace Go.Proofs.YtijdigdcmjdooaaGreat
open Go.RowKit Go.Sort
set_option maxHeartbeats 8000000
set_option maxRecDepth 20000

theorem l1in_q {x a b : Int} {r : Bool} (h : inR x a b = r) (w : World) (d : Nat) (os : Array Obj) : Calls Tryz.prog 35 #[.int .i64 x, .int .i64 a, .int .i64 b] (grow (redrawn w d) os) fun e w'' =>
    e = .returned (.bool r) ∧ ∃ p : Regrown, w'' = grow (redrawn w p.d) p.os :=
  Calls.regrown_of ((l1in_any x a b _).mono fun _ _ h' => ⟨by rw [h'.1, h], by rw [← h'.2]; exact Below.refl _ _⟩)
theorem specSpotOk_q (a a' : Option Addr) (N : Nt) (cap cap' : Nat) (q at' way : Int) (w : World) {r : Bool} (hr : spotOkP N q at' way = r) (hn : N.pcs.length ≤ 1048576) (hs : ∀ p ∈ N.pcs, p.name.size ≤ 1048576) (hl : N.jts.length ≤ 1048576) (hm : ∀ j ∈ N.jts, j.name.size ≤ 1048576 ∧ j.ends.length ≤ 1048576) (hp : PcsAt w a N.pcs) (hj : JtsAt w a' N.jts) (d : Nat) (os : Array Obj) :
    Calls Tryz.prog 34 #[.agg #[.slice a N.pcs.length cap, .slice a' N.jts.length cap'], .agg #[.int .i64 q, .int .i64 at', .int .i64 way]] (grow (redrawn w d) os) fun e w'' =>
    e = .returned (.bool r) ∧ ∃ p : Regrown, w'' = grow (redrawn w p.d) p.os :=
  Calls.regrown_of ((specSpotOk_any a a' N cap cap' q at' way _ hn hs hl hm (hp.later (below_regrown w d os)) (hj.later (below_regrown w d os))).mono fun _ _ h' => ⟨by rw [h'.1, hr], h'.2⟩)
/-- What is asked of the arguments ahead of the steps. -/
def strPre (N : Nt) (ok : Bool) (far : Int) (ss : List (Int × Int)) (q a wy : Int) : Bool := ok && spotOkP N q a wy && decide (¬ ss.length = 0) && decide (ss.length ≤ 400) && inR far 0 1000000 && decide (ss[0]! = (q, wy))
theorem str_pre {N : Nt} {ok : Bool} {far : Int} {ss : List (Int × Int)} {q a wy : Int} (h : strPre N ok far ss q a wy = false) : stretchP N ok far ss q a wy = [] := by
  refine str_not fun h' => ?_
  obtain ⟨h1, h2, h3, h4, h5, h6, h7, _⟩ := h'
  have e : strPre N ok far ss q a wy = true := by
    simp [strPre, spotOkP, h1, h2, h3, h4, h6, steps_few h7]
    intro e
    exact h5 (by rw [e]; rfl)
  rw [e] at h
  cases h
theorem str_steps {N : Nt} {ok : Bool} {far : Int} {ss : List (Int × Int)} {q a wy : Int} (h : stepsP N ss = false) : stretchP N ok far ss q a wy = [] := by
  refine str_not fun h' => ?_
  obtain ⟨h1, h2, h3, h4, h5, h6, h7, _⟩ := h'
  rw [h] at h7
  cases h7
theorem steps_bad {N : Nt} {ss : List (Int × Int)} {k : Nat} (hk : k < ss.length) (h : stepOk N.pcs.length ss[k] = false) : stepsP N ss = false := by
  cases hs : stepsP N ss
  · rfl
  · simp only [stepsP, Bool.and_eq_true, List.all_eq_true] at hs
    rw [hs.2 _ (List.getElem_mem hk)] at h
    cases h
theorem steps_good {N : Nt} {ss : List (Int × Int)} (hl : ss.length ≤ 400) (h : ∀ j (hj : j < ss.length), stepOk N.pcs.length ss[j] = true) : stepsP N ss = true := by
  simp only [stepsP, Bool.and_eq_true, List.all_eq_true, decide_eq_true_eq]
  refine ⟨hl, fun s hs => ?_⟩
  obtain ⟨i, hi, rfl⟩ := List.getElem_of_mem hs
  exact h i hi

/-- The boxes of the arguments. -/
structure SxB (w wr : World) (v0 v1 : Value) (ok : Bool) (far : Int) (v2 v3 : Value) (q at' wy : Int) : Prop where
  n0 : wr.cell? ⟨w.heap.size, 0, none⟩ = some v0
  n1 : wr.cell? ⟨w.heap.size, 1, none⟩ = some v1
  p0 : wr.cell? ⟨w.heap.size + 1, 0, none⟩ = some (.bool ok)
  p1 : wr.cell? ⟨w.heap.size + 1, 1, none⟩ = some (.int .i64 far)
  p2 : wr.cell? ⟨w.heap.size + 1, 2, none⟩ = some v2
  p3 : wr.cell? ⟨w.heap.size + 1, 3, none⟩ = some v3
  s0 : wr.cell? ⟨w.heap.size + 1 + 1, 0, none⟩ = some (.int .i64 q)
  s1 : wr.cell? ⟨w.heap.size + 1 + 1, 1, none⟩ = some (.int .i64 at')
  s2 : wr.cell? ⟨w.heap.size + 1 + 1, 2, none⟩ = some (.int .i64 wy)
  below : Below w.heap.size w wr
theorem SxB.later {w w1 w2 : World} {v0 v1 v2 v3 : Value} {ok : Bool} {far q at' wy : Int} (h : SxB w w1 v0 v1 ok far v2 v3 q at' wy) (hb : Below w1.heap.size w1 w2) : SxB w w2 v0 v1 ok far v2 v3 q at' wy :=
  ⟨cell_later' hb h.n0, cell_later' hb h.n1, cell_later' hb h.p0, cell_later' hb h.p1, cell_later' hb h.p2, cell_later' hb h.p3, cell_later' hb h.s0, cell_later' hb h.s1, cell_later' hb h.s2, h.below.trans (hb.mono h.below.size)⟩
/-- Between two rounds of the second loop. -/
structure SxL (w wr : World) (bA : Nat) (v0 v1 v2 : Value) (x y z : Int) : Prop where
  n0 : wr.cell? ⟨w.heap.size, 0, none⟩ = some v0
  n1 : wr.cell? ⟨w.heap.size, 1, none⟩ = some v1
  p2 : wr.cell? ⟨w.heap.size + 1, 2, none⟩ = some v2
  c0 : wr.cell? ⟨bA, 0, none⟩ = some (.int .i64 x)
  c1 : wr.cell? ⟨bA, 1, none⟩ = some (.int .i64 y)
  c2 : wr.cell? ⟨bA, 2, none⟩ = some (.int .i64 z)
  fz : ∀ i, wr.frozen? ⟨bA, i, none⟩ = false
  lo : w.heap.size + 1 < bA
  below : Below w.heap.size w wr
theorem SxL.later {w w1 w2 : World} {bA : Nat} {v0 v1 v2 : Value} {x y z : Int} (h : SxL w w1 bA v0 v1 v2 x y z) (hb : Below w1.heap.size w1 w2) : SxL w w2 bA v0 v1 v2 x y z :=
  ⟨cell_later' hb h.n0, cell_later' hb h.n1, cell_later' hb h.p2, cell_later' hb h.c0, cell_later' hb h.c1, cell_later' hb h.c2, fun i => by rw [hb.frozen (p := ⟨bA, i, none⟩) (cell_lt h.c0)]; exact h.fz i, h.lo, h.below.trans (hb.mono h.below.size)⟩
theorem SxL.put {w w1 : World} {bA : Nat} {v0 v1 v2 : Value} {x y z : Int} (h : SxL w w1 bA v0 v1 v2 x y z) (x' y' z' : Int) : SxL w (((w1.setCell ⟨bA, 0, none⟩ (.int .i64 x')).setCell ⟨bA, 1, none⟩ (.int .i64 y')).setCell ⟨bA, 2, none⟩ (.int .i64 z')) bA v0 v1 v2 x' y' z' := by
  have hlo := h.lo
  obtain ⟨n0, n1, p2, c0, c1, c2, fz, _, hb⟩ := h
  have far : ∀ (W : World) (o : Nat) (v : Value) (b i : Nat), b < bA → (W.setCell ⟨bA, o, none⟩ v).cell? ⟨b, i, none⟩ = W.cell? ⟨b, i, none⟩ := fun W o v b i hlt => World.cell?_setCell_far W ⟨bA, o, none⟩ ⟨b, i, none⟩ v (by show bA ≠ b; omega)
  refine ⟨by rw [far _ _ _ _ _ (by omega), far _ _ _ _ _ (by omega), far _ _ _ _ _ (by omega)]; exact n0, by rw [far _ _ _ _ _ (by omega), far _ _ _ _ _ (by omega), far _ _ _ _ _ (by omega)]; exact n1, by rw [far _ _ _ _ _ (by omega), far _ _ _ _ _ (by omega), far _ _ _ _ _ (by omega)]; exact p2, by simp [go_sem, c0], by simp [go_sem, c1], by simp [go_sem, c2], fun i => by rw [World.frozen?_setCell, World.frozen?_setCell, World.frozen?_setCell]; exact fz i, hlo, ?_⟩
  exact ((hb.setCell (by show w.heap.size ≤ bA; omega) _).setCell (by show w.heap.size ≤ bA; omega) _).setCell (by show w.heap.size ≤ bA; omega) _
theorem SxL.grown {w w1 w2 : World} {bA : Nat} {v0 v1 v2 : Value} {x y z : Int} {row : Option Nat} (h : SxL w w1 bA v0 v1 v2 x y z) (hg : w1.grownBy w2 row) (hrow : ∀ g, row = some g → bA + 1 ≤ g) : SxL w w2 bA v0 v1 v2 x y z := by
  have hlo := h.lo
  have hA := cell_lt h.c0
  have hne : ∀ b, b ≤ bA → some b ≠ row := fun b hb e => by have := hrow b e.symm; omega
  have e : ∀ b i, b ≤ bA → w2.cell? ⟨b, i, none⟩ = w1.cell? ⟨b, i, none⟩ := fun b i hb => hg.cell_far ⟨b, i, none⟩ (by show b < w1.heap.size; omega) (hne b hb)
  exact ⟨(e _ _ (by omega)).trans h.n0, (e _ _ (by omega)).trans h.n1, (e _ _ (by omega)).trans h.p2, (e _ _ (by omega)).trans h.c0, (e _ _ (by omega)).trans h.c1, (e _ _ (by omega)).trans h.c2, fun i => by rw [hg.frozen_far ⟨bA, i, none⟩ hA (hne bA (by omega))]; exact h.fz i, hlo, h.below.grown hg h.below.size (fun k e => by have := hrow k e; omega)⟩
/-- The steps and the one that a round reads. -/
abbrev XG (wr wx : World) (pb sb o : Nat) (v2 : Value) (s1 s2 : Int) : Prop :=
  (wx.cell? ⟨pb, 2, none⟩ = some v2 ∧ wx.cell? ⟨sb, o, none⟩ = some (.int .i64 s1) ∧ wx.cell? ⟨sb, o + 1, none⟩ = some (.int .i64 s2)) ∧ Hid (Below wr.heap.size wr wx)
theorem keepXG {wr w2 w3 : World} {pb sb o : Nat} {v2 : Value} {s1 s2 : Int} (hb : Below w2.heap.size w2 w3) (h : XG wr w2 pb sb o v2 s1 s2) : XG wr w3 pb sb o v2 s1 s2 :=
  ⟨⟨cell_later' hb h.1.1, cell_later' hb h.1.2.1, cell_later' hb h.1.2.2⟩, h.2.out.trans (hb.mono h.2.out.size)⟩
theorem putXG {wr w2 : World} {pb sb o : Nat} {v2 : Value} {s1 s2 : Int} {b : Nat} (hb : wr.heap.size ≤ b) (h1 : pb < wr.heap.size) (h2 : sb < wr.heap.size) (h : XG wr w2 pb sb o v2 s1 s2) (x y : Value) : XG wr ((w2.setCell ⟨b, 0, none⟩ x).setCell ⟨b, 1, none⟩ y) pb sb o v2 s1 s2 := by
  have e : ∀ (W : World) (o : Nat) (v : Value) (c i : Nat) (u : Value), c < wr.heap.size → W.cell? ⟨c, i, none⟩ = some u → (W.setCell ⟨b, o, none⟩ v).cell? ⟨c, i, none⟩ = some u := fun W o v c i u hc hu => by
    rw [World.cell?_setCell_far W ⟨b, o, none⟩ ⟨c, i, none⟩ v (by show b ≠ c; omega)]; exact hu
  exact ⟨⟨e _ _ _ _ _ _ h1 (e _ _ _ _ _ _ h1 h.1.1), e _ _ _ _ _ _ h2 (e _ _ _ _ _ _ h2 h.1.2.1), e _ _ _ _ _ _ h2 (e _ _ _ _ _ _ h2 h.1.2.2)⟩, (h.2.out.setCell (by show wr.heap.size ≤ b; omega) _).setCell (by show wr.heap.size ≤ b; omega) _⟩
theorem partCells_app (ps : List (Int × Int × Int)) (p : Int × Int × Int) : partCells (ps ++ [p]) = partCells ps ++ partCells [p] := by simp [partCells]
theorem sxB_new (a a' z zl : Option Addr) (N : Nt) (cap cap' zc zlc : Nat) (ok : Bool) (far : Int) (ss : List (Int × Int)) (nl : Nat) (q at' wy : Int) (w : World) : SxB w (((w.alloc (.cells #[.slice a N.pcs.length cap, .slice a' N.jts.length cap'] 26)).alloc (.cells #[.bool ok, .int .i64 far, .slice z ss.length zc, .slice zl nl zlc] 37)).alloc (.cells #[.int .i64 q, .int .i64 at', .int .i64 wy] 29)) (.slice a N.pcs.length cap) (.slice a' N.jts.length cap') ok far (.slice z ss.length zc) (.slice zl nl zlc) q at' wy :=
  ⟨by simp [go_sem], by simp [go_sem], by simp [go_sem], by simp [go_sem], by simp [go_sem], by simp [go_sem], by simp [go_sem], by simp [go_sem], by simp [go_sem], ((((Below.refl _ _).alloc (Nat.le_refl _) _).alloc (by simp) _).alloc (by simp; omega) _)⟩

end Go.Proofs.YtijdigdcmjdooaaGreat
