/- spec.Stretch. Own work, written by gen_stretch.py. -/
import Derived.Test.YtldafgbhjpfboaaGreatMxAO
import Derived.Test.YtldafgbhjpfboaaGreatWsB
import Derived.Test.YtldafgbhjpfboaaGreatMxAZ
import Derived.Test.YtldafgbhjpfboaaGreatDrS
import Derived.Deep.AppendLies
import Derived.Lib.QuietBelow
import Derived.BigQuiet
import Derived.Deep.CutRange
import Derived.Test.YtldafgbhjpfboaaGreatMxAN
namespace Go.Proofs.YtldafgbhjpfboaaGreat
open Go.RowKit Go.Sort
set_option maxHeartbeats 8000000
set_option maxRecDepth 20000

theorem l1in_q {x a b : Int} {r : Bool} (h : inR x a b = r) (w : World) (d : Nat) (os : Array Obj) : Calls Tryz.prog 34 #[.int .i64 x, .int .i64 a, .int .i64 b] (grow (redrawn w d) os) fun e w'' =>
    e = .returned (.bool r) ∧ ∃ p : Regrown, w'' = grow (redrawn w p.d) p.os :=
  Calls.regrown_of ((l1in_any x a b _).mono fun _ _ h' => ⟨by rw [h'.1, h], by rw [← h'.2]; exact Below.refl _ _⟩)
theorem specSpotOk_q (a a' : Option Addr) (N : Nt) (cap cap' : Nat) (q at' way : Int) (w : World) {r : Bool} (hr : spotOkP N q at' way = r) (hn : N.pcs.length ≤ 1048576) (hs : ∀ p ∈ N.pcs, p.name.size ≤ 1048576) (hl : N.jts.length ≤ 1048576) (hm : ∀ j ∈ N.jts, j.name.size ≤ 1048576 ∧ j.ends.length ≤ 1048576) (hp : PcsAt w a N.pcs) (hj : JtsAt w a' N.jts) (d : Nat) (os : Array Obj) :
    Calls Tryz.prog 24 #[.agg #[.slice a N.pcs.length cap, .slice a' N.jts.length cap'], .agg #[.int .i64 q, .int .i64 at', .int .i64 way]] (grow (redrawn w d) os) fun e w'' =>
    e = .returned (.bool r) ∧ ∃ p : Regrown, w'' = grow (redrawn w p.d) p.os :=
  Calls.regrown_of ((specSpotOk_any a a' N cap cap' q at' way _ hn hs hl hm (hp.later (below_regrown w d os)) (hj.later (below_regrown w d os))).mono fun _ _ h' => ⟨by rw [h'.1, hr], h'.2⟩)
theorem l4step_any (q at' wy : Int) (w : World) : Calls Tryz.prog 26 #[.agg #[.int .i64 q, .int .i64 at', .int .i64 wy]] w fun e w' => e = .returned (.agg #[.int .i64 q, .int .i64 wy]) ∧ Below w.heap.size w w' := by
  go_enter Tryz.func26, Tryz.ntmps26
  go_wp2_with fail
  exact bodyPost_ret (v := .agg #[.int .i64 q, .int .i64 wy]) (by simp [results, Tryz.results26, go_sem]) rfl ⟨rfl, ((Below.refl _ _).alloc (Nat.le_refl _) _).alloc (by simp) _⟩
theorem l4step_q (q at' wy : Int) (w : World) (d : Nat) (os : Array Obj) : Calls Tryz.prog 26 #[.agg #[.int .i64 q, .int .i64 at', .int .i64 wy]] (grow (redrawn w d) os) fun e w'' =>
    e = .returned (.agg #[.int .i64 q, .int .i64 wy]) ∧ ∃ p : Regrown, w'' = grow (redrawn w p.d) p.os := Calls.regrown_of (l4step_any q at' wy _)

/-- What is asked of the arguments ahead of the steps. -/
def strPre (N : Nt) (ok : Bool) (far : Int) (ss : List (Int × Int)) (q a wy : Int) : Bool := ok && spotOkP N q a wy && decide (¬ ss.length = 0) && decide (ss.length ≤ 400) && inR far 0 1000000 && decide (ss[0]! = (q, wy))
theorem str_pre {N : Nt} {ok : Bool} {far : Int} {ss : List (Int × Int)} {q a wy : Int} (h : strPre N ok far ss q a wy = false) : stretchP N ok far ss q a wy = [] := by
  refine str_not fun h' => ?_
  obtain ⟨h1, h2, h3, h4, h5, h6, h7, _⟩ := h'
  have e : strPre N ok far ss q a wy = true := by
    simp [strPre, spotOkP, h1, h2, h3, h4, h6, steps_few h7]
    intro e
    exact h5 (by rw [e]; rfl)
  rw [e] at h
  cases h
theorem str_steps {N : Nt} {ok : Bool} {far : Int} {ss : List (Int × Int)} {q a wy : Int} (h : stepsP N ss = false) : stretchP N ok far ss q a wy = [] := by
  refine str_not fun h' => ?_
  obtain ⟨h1, h2, h3, h4, h5, h6, h7, _⟩ := h'
  rw [h] at h7
  cases h7
theorem steps_bad {N : Nt} {ss : List (Int × Int)} {k : Nat} (hk : k < ss.length) (h : stepOk N.pcs.length ss[k] = false) : stepsP N ss = false := by
  cases hs : stepsP N ss
  · rfl
  · simp only [stepsP, Bool.and_eq_true, List.all_eq_true] at hs
    rw [hs.2 _ (List.getElem_mem hk)] at h
    cases h
theorem steps_good {N : Nt} {ss : List (Int × Int)} (hl : ss.length ≤ 400) (h : ∀ j (hj : j < ss.length), stepOk N.pcs.length ss[j] = true) : stepsP N ss = true := by
  simp only [stepsP, Bool.and_eq_true, List.all_eq_true, decide_eq_true_eq]
  refine ⟨hl, fun s hs => ?_⟩
  obtain ⟨i, hi, rfl⟩ := List.getElem_of_mem hs
  exact h i hi

/-- The boxes of the arguments. -/
structure SxB (w wr : World) (v0 v1 : Value) (ok : Bool) (far : Int) (v2 v3 : Value) (q at' wy : Int) : Prop where
  n0 : wr.cell? ⟨w.heap.size, 0, none⟩ = some v0
  n1 : wr.cell? ⟨w.heap.size, 1, none⟩ = some v1
  p0 : wr.cell? ⟨w.heap.size + 1, 0, none⟩ = some (.bool ok)
  p1 : wr.cell? ⟨w.heap.size + 1, 1, none⟩ = some (.int .i64 far)
  p2 : wr.cell? ⟨w.heap.size + 1, 2, none⟩ = some v2
  p3 : wr.cell? ⟨w.heap.size + 1, 3, none⟩ = some v3
  s0 : wr.cell? ⟨w.heap.size + 1 + 1, 0, none⟩ = some (.int .i64 q)
  s1 : wr.cell? ⟨w.heap.size + 1 + 1, 1, none⟩ = some (.int .i64 at')
  s2 : wr.cell? ⟨w.heap.size + 1 + 1, 2, none⟩ = some (.int .i64 wy)
  below : Below w.heap.size w wr
theorem SxB.later {w w1 w2 : World} {v0 v1 v2 v3 : Value} {ok : Bool} {far q at' wy : Int} (h : SxB w w1 v0 v1 ok far v2 v3 q at' wy) (hb : Below w1.heap.size w1 w2) : SxB w w2 v0 v1 ok far v2 v3 q at' wy :=
  ⟨cell_later' hb h.n0, cell_later' hb h.n1, cell_later' hb h.p0, cell_later' hb h.p1, cell_later' hb h.p2, cell_later' hb h.p3, cell_later' hb h.s0, cell_later' hb h.s1, cell_later' hb h.s2, h.below.trans (hb.mono h.below.size)⟩
/-- Between two rounds of the second loop. -/
structure SxL (w wr : World) (bA : Nat) (v0 v1 v2 : Value) (x y z : Int) : Prop where
  n0 : wr.cell? ⟨w.heap.size, 0, none⟩ = some v0
  n1 : wr.cell? ⟨w.heap.size, 1, none⟩ = some v1
  p2 : wr.cell? ⟨w.heap.size + 1, 2, none⟩ = some v2
  c0 : wr.cell? ⟨bA, 0, none⟩ = some (.int .i64 x)
  c1 : wr.cell? ⟨bA, 1, none⟩ = some (.int .i64 y)
  c2 : wr.cell? ⟨bA, 2, none⟩ = some (.int .i64 z)
  fz : ∀ i, wr.frozen? ⟨bA, i, none⟩ = false
  lo : w.heap.size + 1 < bA
  below : Below w.heap.size w wr
theorem SxL.later {w w1 w2 : World} {bA : Nat} {v0 v1 v2 : Value} {x y z : Int} (h : SxL w w1 bA v0 v1 v2 x y z) (hb : Below w1.heap.size w1 w2) : SxL w w2 bA v0 v1 v2 x y z :=
  ⟨cell_later' hb h.n0, cell_later' hb h.n1, cell_later' hb h.p2, cell_later' hb h.c0, cell_later' hb h.c1, cell_later' hb h.c2, fun i => by rw [hb.frozen (p := ⟨bA, i, none⟩) (cell_lt h.c0)]; exact h.fz i, h.lo, h.below.trans (hb.mono h.below.size)⟩
theorem SxL.put {w w1 : World} {bA : Nat} {v0 v1 v2 : Value} {x y z : Int} (h : SxL w w1 bA v0 v1 v2 x y z) (x' y' z' : Int) : SxL w (((w1.setCell ⟨bA, 0, none⟩ (.int .i64 x')).setCell ⟨bA, 1, none⟩ (.int .i64 y')).setCell ⟨bA, 2, none⟩ (.int .i64 z')) bA v0 v1 v2 x' y' z' := by
  have hlo := h.lo
  obtain ⟨n0, n1, p2, c0, c1, c2, fz, _, hb⟩ := h
  have far : ∀ (W : World) (o : Nat) (v : Value) (b i : Nat), b < bA → (W.setCell ⟨bA, o, none⟩ v).cell? ⟨b, i, none⟩ = W.cell? ⟨b, i, none⟩ := fun W o v b i hlt => World.cell?_setCell_far W ⟨bA, o, none⟩ ⟨b, i, none⟩ v (by show bA ≠ b; omega)
  refine ⟨by rw [far _ _ _ _ _ (by omega), far _ _ _ _ _ (by omega), far _ _ _ _ _ (by omega)]; exact n0, by rw [far _ _ _ _ _ (by omega), far _ _ _ _ _ (by omega), far _ _ _ _ _ (by omega)]; exact n1, by rw [far _ _ _ _ _ (by omega), far _ _ _ _ _ (by omega), far _ _ _ _ _ (by omega)]; exact p2, by simp [go_sem, c0], by simp [go_sem, c1], by simp [go_sem, c2], fun i => by rw [World.frozen?_setCell, World.frozen?_setCell, World.frozen?_setCell]; exact fz i, hlo, ?_⟩
  exact ((hb.setCell (by show w.heap.size ≤ bA; omega) _).setCell (by show w.heap.size ≤ bA; omega) _).setCell (by show w.heap.size ≤ bA; omega) _
theorem SxL.grown {w w1 w2 : World} {bA : Nat} {v0 v1 v2 : Value} {x y z : Int} {row : Option Nat} (h : SxL w w1 bA v0 v1 v2 x y z) (hg : w1.grownBy w2 row) (hrow : ∀ g, row = some g → bA + 1 ≤ g) : SxL w w2 bA v0 v1 v2 x y z := by
  have hlo := h.lo
  have hA := cell_lt h.c0
  have hne : ∀ b, b ≤ bA → some b ≠ row := fun b hb e => by have := hrow b e.symm; omega
  have e : ∀ b i, b ≤ bA → w2.cell? ⟨b, i, none⟩ = w1.cell? ⟨b, i, none⟩ := fun b i hb => hg.cell_far ⟨b, i, none⟩ (by show b < w1.heap.size; omega) (hne b hb)
  exact ⟨(e _ _ (by omega)).trans h.n0, (e _ _ (by omega)).trans h.n1, (e _ _ (by omega)).trans h.p2, (e _ _ (by omega)).trans h.c0, (e _ _ (by omega)).trans h.c1, (e _ _ (by omega)).trans h.c2, fun i => by rw [hg.frozen_far ⟨bA, i, none⟩ hA (hne bA (by omega))]; exact h.fz i, hlo, h.below.grown hg h.below.size (fun k e => by have := hrow k e; omega)⟩
/-- The steps and the one that a round reads. -/
abbrev XG (wr wx : World) (pb sb o : Nat) (v2 : Value) (s1 s2 : Int) : Prop :=
  (wx.cell? ⟨pb, 2, none⟩ = some v2 ∧ wx.cell? ⟨sb, o, none⟩ = some (.int .i64 s1) ∧ wx.cell? ⟨sb, o + 1, none⟩ = some (.int .i64 s2)) ∧ Hid (Below wr.heap.size wr wx)
theorem keepXG {wr w2 w3 : World} {pb sb o : Nat} {v2 : Value} {s1 s2 : Int} (hb : Below w2.heap.size w2 w3) (h : XG wr w2 pb sb o v2 s1 s2) : XG wr w3 pb sb o v2 s1 s2 :=
  ⟨⟨cell_later' hb h.1.1, cell_later' hb h.1.2.1, cell_later' hb h.1.2.2⟩, h.2.out.trans (hb.mono h.2.out.size)⟩
theorem putXG {wr w2 : World} {pb sb o : Nat} {v2 : Value} {s1 s2 : Int} {b : Nat} (hb : wr.heap.size ≤ b) (h1 : pb < wr.heap.size) (h2 : sb < wr.heap.size) (h : XG wr w2 pb sb o v2 s1 s2) (x y : Value) : XG wr ((w2.setCell ⟨b, 0, none⟩ x).setCell ⟨b, 1, none⟩ y) pb sb o v2 s1 s2 := by
  have e : ∀ (W : World) (o : Nat) (v : Value) (c i : Nat) (u : Value), c < wr.heap.size → W.cell? ⟨c, i, none⟩ = some u → (W.setCell ⟨b, o, none⟩ v).cell? ⟨c, i, none⟩ = some u := fun W o v c i u hc hu => by
    rw [World.cell?_setCell_far W ⟨b, o, none⟩ ⟨c, i, none⟩ v (by show b ≠ c; omega)]; exact hu
  exact ⟨⟨e _ _ _ _ _ _ h1 (e _ _ _ _ _ _ h1 h.1.1), e _ _ _ _ _ _ h2 (e _ _ _ _ _ _ h2 h.1.2.1), e _ _ _ _ _ _ h2 (e _ _ _ _ _ _ h2 h.1.2.2)⟩, (h.2.out.setCell (by show wr.heap.size ≤ b; omega) _).setCell (by show wr.heap.size ≤ b; omega) _⟩
theorem partCells_app (ps : List (Int × Int × Int)) (p : Int × Int × Int) : partCells (ps ++ [p]) = partCells ps ++ partCells [p] := by simp [partCells]
theorem sxB_new (a a' z zl : Option Addr) (N : Nt) (cap cap' zc zlc : Nat) (ok : Bool) (far : Int) (ss : List (Int × Int)) (nl : Nat) (q at' wy : Int) (w : World) : SxB w (((w.alloc (.cells #[.slice a N.pcs.length cap, .slice a' N.jts.length cap'] 26)).alloc (.cells #[.bool ok, .int .i64 far, .slice z ss.length zc, .slice zl nl zlc] 34)).alloc (.cells #[.int .i64 q, .int .i64 at', .int .i64 wy] 29)) (.slice a N.pcs.length cap) (.slice a' N.jts.length cap') ok far (.slice z ss.length zc) (.slice zl nl zlc) q at' wy :=
  ⟨by simp [go_sem], by simp [go_sem], by simp [go_sem], by simp [go_sem], by simp [go_sem], by simp [go_sem], by simp [go_sem], by simp [go_sem], by simp [go_sem], ((((Below.refl _ _).alloc (Nat.le_refl _) _).alloc (by simp) _).alloc (by simp; omega) _)⟩

theorem specStretch_any (a a' z zl : Option Addr) (N : Nt) (cap cap' zc zlc : Nat) (ok : Bool) (far : Int) (ss : List (Int × Int)) (nl : Nat) (q at' wy : Int) (w : World) (hn : N.pcs.length ≤ 1048576) (hs : ∀ p ∈ N.pcs, p.name.size ≤ 1048576) (hl : N.jts.length ≤ 1048576) (hm : ∀ j ∈ N.jts, j.name.size ≤ 1048576 ∧ j.ends.length ≤ 1048576) (hx : ss.length ≤ 1048576) (hp : PcsAt w a N.pcs) (hj : JtsAt w a' N.jts) (hz : EndsAt w z ss) :
    Calls Tryz.prog 12 #[.agg #[.slice a N.pcs.length cap, .slice a' N.jts.length cap'], .agg #[.bool ok, .int .i64 far, .slice z ss.length zc, .slice zl nl zlc], .agg #[.int .i64 q, .int .i64 at', .int .i64 wy]] w fun e w' =>
    ∃ v, e = .returned v ∧ w'.ownsRow w.heap.size 87 3 v (stretchP N ok far ss q at' wy).length (partCells (stretchP N ok far ss q at' wy)) ∧ Below w.heap.size w w' := by
  have HP := hide hp
  have HJ := hide hj
  have HZ := hide hz
  have HM := hide hm
  have HS := hide hs
  obtain ⟨i0, hi, hz0, hz1, hz2⟩ := info_parts infoPart
  have HI := hide hi
  have HZ0 := hide hz0
  have HZ1 := hide hz1
  have HZ2 := hide hz2
  clear hi hz0 hz1 hz2
  have HB0 := hide (sxB_new a a' z zl N cap cap' zc zlc ok far ss nl q at' wy w)
  clear hp hj hz hm hs
  go_enter Tryz.func12, Tryz.ntmps12
  go_upto_region 1 with fail
  generalize ((w.alloc (.cells #[.slice a N.pcs.length cap, .slice a' N.jts.length cap'] 26)).alloc (.cells #[.bool ok, .int .i64 far, .slice z ss.length zc, .slice zl nl zlc] 34)).alloc (.cells #[.int .i64 q, .int .i64 at', .int .i64 wy] 29) = w1 at *
  have HP1 := hide (HP.out.later HB0.out.below)
  have HJ1 := hide (HJ.out.later HB0.out.below)
  have HZZ := hide (HZ.out.later HB0.out.below)
  go_cut [55] (fun c wx => c = .bool (!strPre N ok far ss q at' wy) ∧ Below w1.heap.size w1 wx)
  case first =>
    have k0 := cell_regrown HB0.out.n0
    have k1 := cell_regrown HB0.out.n1
    have k2 := cell_regrown HB0.out.p0
    have k3 := cell_regrown HB0.out.p1
    have k4 := cell_regrown HB0.out.p2
    have k5 := cell_regrown HB0.out.s0
    have k6 := cell_regrown HB0.out.s1
    have k7 := cell_regrown HB0.out.s2
    cases ok
    · have HR := hide (show strPre N false far ss q at' wy = false by simp [strPre])
      refine wp_region_quiet_below (by kernel_rfl) (by kernel_rfl) ?_
      repeat (go_big_quiet_step (fail))
      refine wpQuiet_nil ?_
      intro _ hw'
      obtain ⟨⟨dq, osq⟩, hw''⟩ := hw'
      subst hw''
      go_wp2_with fail
      go_meet
      case rel => exact ⟨by rw [HR.out]; rfl, below_regrown w1 dq osq⟩
    cases h1 : spotOkP N q at' wy
    · have H1 := hide h1
      have HR := hide (show strPre N true far ss q at' wy = false by simp [strPre, h1])
      clear h1
      refine wp_region_quiet_below (by kernel_rfl) (by kernel_rfl) ?_
      repeat (go_big_quiet_step (first | exact specSpotOk_q a a' N _ _ _ _ _ _ H1.out hn HS.out hl HM.out HP1.out HJ1.out _ _))
      refine wpQuiet_nil ?_
      intro _ hw'
      obtain ⟨⟨dq, osq⟩, hw''⟩ := hw'
      subst hw''
      go_wp2_with fail
      go_meet
      case rel => exact ⟨by rw [HR.out]; rfl, below_regrown w1 dq osq⟩
    have H1 := hide h1
    clear h1
    by_cases hl0 : ss.length = 0
    · have ql : ((ss.length : Int) == 0) = true := by rw [hl0]; rfl
      have ql2 : (ss.length == 0) = true := by rw [hl0]; rfl
      have HR := hide (show strPre N true far ss q at' wy = false by simp [strPre, hl0])
      clear hl0
      refine wp_region_quiet_below (by kernel_rfl) (by kernel_rfl) ?_
      repeat (go_big_quiet_step (first | exact specSpotOk_q a a' N _ _ _ _ _ _ H1.out hn HS.out hl HM.out HP1.out HJ1.out _ _))
      refine wpQuiet_nil ?_
      intro _ hw'
      obtain ⟨⟨dq, osq⟩, hw''⟩ := hw'
      subst hw''
      go_wp2_with fail
      go_meet
      case rel => exact ⟨by rw [HR.out]; rfl, below_regrown w1 dq osq⟩
    have ql : ((ss.length : Int) == 0) = false := by rw [beq_eq_false_iff_ne]; omega
    have ql2 : (ss.length == 0) = false := by rw [beq_eq_false_iff_ne]; omega
    have HL0 := hide hl0
    have hlp : 0 < ss.length := by omega
    have hlpi : (0 : Int) < (ss.length : Int) := by omega
    clear hl0
    by_cases h4 : (400 : Int) < (ss.length : Int)
    · have q4 : decide ((400 : Int) < (ss.length : Int)) = true := decide_eq_true h4
      have HR := hide (show strPre N true far ss q at' wy = false by
        have : decide (ss.length ≤ 400) = false := decide_eq_false (by omega)
        simp [strPre, this])
      clear h4
      refine wp_region_quiet_below (by kernel_rfl) (by kernel_rfl) ?_
      repeat (go_big_quiet_step (first | exact specSpotOk_q a a' N _ _ _ _ _ _ H1.out hn HS.out hl HM.out HP1.out HJ1.out _ _))
      refine wpQuiet_nil ?_
      intro _ hw'
      obtain ⟨⟨dq, osq⟩, hw''⟩ := hw'
      subst hw''
      go_wp2_with fail
      go_meet
      case rel => exact ⟨by rw [HR.out]; rfl, below_regrown w1 dq osq⟩
    have q4 : decide ((400 : Int) < (ss.length : Int)) = false := decide_eq_false h4
    have HL4 := hide (show ss.length ≤ 400 by omega)
    clear h4
    cases h2 : inR far 0 1000000
    · have H2 := hide h2
      have HR := hide (show strPre N true far ss q at' wy = false by simp [strPre, h2])
      clear h2
      refine wp_region_quiet_below (by kernel_rfl) (by kernel_rfl) ?_
      repeat (go_big_quiet_step (first | exact specSpotOk_q a a' N _ _ _ _ _ _ H1.out hn HS.out hl HM.out HP1.out HJ1.out _ _ | with_reducible exact l1in_q H2.out _ _ _))
      refine wpQuiet_nil ?_
      intro _ hw'
      obtain ⟨⟨dq, osq⟩, hw''⟩ := hw'
      subst hw''
      go_wp2_with fail
      go_meet
      case rel => exact ⟨by rw [HR.out]; rfl, below_regrown w1 dq osq⟩
    have H2 := hide h2
    clear h2
    obtain ⟨sb, so, rfl, c0, c1⟩ := HZZ.out 0 hlp
    simp only [Nat.zero_mul, Nat.add_zero] at c0 c1
    have k8 := cell_regrown c0
    have k9 := cell_regrown c1
    have HG0 := hide (show ss[0]! = ss[0] by simp [hlp])
    generalize hs0 : ss[0] = s at *
    obtain ⟨s1, s2⟩ := s
    dsimp only at *
    clear c0 c1 hs0
    by_cases hq1 : s1 = q
    · subst hq1
      by_cases hq2 : s2 = wy
      · subst hq2
        have HR := hide (show strPre N true far ss s1 at' s2 = true by
          have := HL0.out
          simp [strPre, H1.out, H2.out, HL4.out, HG0.out]
          intro e
          exact this (by rw [e]; rfl))
        refine wp_region_quiet_below (by kernel_rfl) (by kernel_rfl) ?_
        repeat (go_big_quiet_step (first | exact specSpotOk_q a a' N _ _ _ _ _ _ H1.out hn HS.out hl HM.out HP1.out HJ1.out _ _ | with_reducible exact l1in_q H2.out _ _ _ | with_reducible exact l4step_q _ _ _ _ _ _))
        refine wpQuiet_nil ?_
        intro _ hw'
        obtain ⟨⟨dq, osq⟩, hw''⟩ := hw'
        subst hw''
        go_wp2_with fail
        go_meet
        case rel => exact ⟨by rw [HR.out]; rfl, below_regrown w1 dq osq⟩
      have qn : (s2 == wy) = false := by rw [beq_eq_false_iff_ne]; exact hq2
      have HR := hide (show strPre N true far ss s1 at' wy = false by
        have : decide (ss[0]! = (s1, wy)) = false := decide_eq_false (by rw [HG0.out]; intro e; exact hq2 (Prod.mk.inj e).2)
        simp only [strPre, this, Bool.and_false])
      clear hq2
      refine wp_region_quiet_below (by kernel_rfl) (by kernel_rfl) ?_
      repeat (go_big_quiet_step (first | exact specSpotOk_q a a' N _ _ _ _ _ _ H1.out hn HS.out hl HM.out HP1.out HJ1.out _ _ | with_reducible exact l1in_q H2.out _ _ _ | with_reducible exact l4step_q _ _ _ _ _ _))
      refine wpQuiet_nil ?_
      intro _ hw'
      obtain ⟨⟨dq, osq⟩, hw''⟩ := hw'
      subst hw''
      go_wp2_with fail
      go_meet
      case rel => exact ⟨by rw [HR.out]; rfl, below_regrown w1 dq osq⟩
    have qn : (s1 == q) = false := by rw [beq_eq_false_iff_ne]; exact hq1
    have HR := hide (show strPre N true far ss q at' wy = false by
      have : decide (ss[0]! = (q, wy)) = false := decide_eq_false (by rw [HG0.out]; intro e; exact hq1 (Prod.mk.inj e).1)
      simp only [strPre, this, Bool.and_false])
    clear hq1
    refine wp_region_quiet_below (by kernel_rfl) (by kernel_rfl) ?_
    repeat (go_big_quiet_step (first | exact specSpotOk_q a a' N _ _ _ _ _ _ H1.out hn HS.out hl HM.out HP1.out HJ1.out _ _ | with_reducible exact l1in_q H2.out _ _ _ | with_reducible exact l4step_q _ _ _ _ _ _))
    refine wpQuiet_nil ?_
    intro _ hw'
    obtain ⟨⟨dq, osq⟩, hw''⟩ := hw'
    subst hw''
    go_wp2_with fail
    go_meet
    case rel => exact ⟨by rw [HR.out]; rfl, below_regrown w1 dq osq⟩
  case rest =>
  obtain ⟨hc, hb2⟩ := hcut
  have HB2 := hide (HB0.out.later hb2)
  clear HB0 HP1 HJ1 HZZ hb2
  cases hpre : strPre N ok far ss q at' wy
  · have HR := hide (str_pre hpre)
    rw [hpre, Bool.not_false] at hc
    subst hc
    clear hpre
    go_wp2_with fail
    go_ret
    rw [HR.out]
    exact ⟨_, rfl, World.ownsRow_nil _ _ _ _, HB2.out.below⟩
  obtain ⟨hok, hnet, hspot, hl0, hl4, hfar, hfirst⟩ : ok = true ∧ netOk N = (0, 0) ∧ spotP N q at' wy = true ∧ ¬ ss.length = 0 ∧ ss.length ≤ 400 ∧ inR far 0 1000000 = true ∧ ss[0]! = (q, wy) := by
    simp only [strPre, spotOkP, Bool.and_eq_true, decide_eq_true_eq] at hpre
    exact ⟨hpre.1.1.1.1.1, hpre.1.1.1.1.2.1, hpre.1.1.1.1.2.2, hpre.1.1.1.2, hpre.1.1.2, hpre.1.2, hpre.2⟩
  have HNET := hide hnet
  have HSPOT := hide hspot
  have HFAR := hide hfar
  have HFIRST := hide hfirst
  have HOKB := hide hok
  have HME := hide (fun j (hj : j ∈ N.jts) => (HM.out j hj).2)
  rw [hpre, Bool.not_true] at hc
  subst hc
  have hp2 := HB2.out.p2
  have hf0 : 0 ≤ far ∧ far ≤ 1000000 := by simp [inR] at hfar; omega
  obtain ⟨hf0, hf1⟩ := hf0
  clear hpre hok hnet hspot hfar hfirst
  go_wp2_with fail
  clear hp2
  go_loopw [8, 59] (fun _ i wr => ∃ (k : Nat), k ≤ ss.length ∧ i = .int .i64 k ∧ Hid (∀ j (_ : j < k) (hj : j < ss.length), stepOk N.pcs.length ss[j] = true) ∧ Hid (SxB w wr (.slice a N.pcs.length cap) (.slice a' N.jts.length cap') ok far (.slice z ss.length zc) (.slice zl nl zlc) q at' wy)) (fun _ i _ => ss.length - (intOf i).toNat)
  case atStart => exact ⟨0, Nat.zero_le _, rfl, (fun j hj => by omega), HB2.out⟩
  case round =>
    obtain ⟨k, hk, rfl, hall, HSX⟩ := hrel
    have t0 := HSX.out.n0
    have hz0 := cell_lt t0
    by_cases hlt : k < ss.length
    · obtain ⟨b, off, rfl, c0, c1⟩ := (EndsAt.later HZ.out HSX.out.below) k hlt
      have hki : (k : Int) < (ss.length : Int) := by omega
      have hblt := cell_lt c0
      have HX2 := hide (HSX.out.later ((Below.refl wr.heap.size wr).alloc (Nat.le_refl _) (.cells #[.int .i64 ss[k].1, .int .i64 ss[k].2] 37)))
      have HBAD := hide (fun (h : stepOk N.pcs.length ss[k] = false) => str_steps (ok := ok) (far := far) (q := q) (a := at') (wy := wy) (steps_bad hlt h))
      have HOK := hide (show stepOk N.pcs.length ss[k] = (inR ss[k].1 0 ((N.pcs.length : Int) - 1) && (ss[k].2 == 1 || ss[k].2 == -1)) from rfl)
      generalize hs : ss[k] = s at *
      obtain ⟨sq, sy⟩ := s
      dsimp only at *
      have HS1 := hide hs
      clear hs
      cases h1 : inR sq 0 ((N.pcs.length : Int) - 1)
      · have H1 := hide h1
        clear h1
        go_wp2_with fail
        refine (l1in_b H1.out _).mono ?_
        rintro e w3 ⟨rfl, rfl⟩
        go_wp2_with fail
        go_ret
        rw [HBAD.out (by rw [HOK.out, H1.out]; rfl)]
        exact ⟨_, rfl, World.ownsRow_nil _ _ _ _, HX2.out.below⟩
      · have H1 := hide h1
        clear h1
        by_cases hy1 : sy = 1
        · subst hy1
          have HY := hide (show stepOk N.pcs.length (sq, 1) = true by rw [HOK.out, H1.out]; rfl)
          go_wp2_with fail
          refine (l1in_b H1.out _).mono ?_
          rintro e w3 ⟨rfl, rfl⟩
          go_wp2_with fail
          refine ⟨⟨k + 1, by omega, by go_num, ?_, HX2⟩, by simp [intOf]; omega⟩
          intro j hj hj'
          by_cases e : j = k
          · subst e; rw [HS1.out]; exact HY.out
          · exact hall.out j (by omega) hj'
        · by_cases hy2 : sy = -1
          · subst hy2
            have HY := hide (show stepOk N.pcs.length (sq, -1) = true by rw [HOK.out, H1.out]; rfl)
            clear hy1
            go_wp2_with fail
            refine (l1in_b H1.out _).mono ?_
            rintro e w3 ⟨rfl, rfl⟩
            go_wp2_with fail
            refine ⟨⟨k + 1, by omega, by go_num, ?_, HX2⟩, by simp [intOf]; omega⟩
            intro j hj hj'
            by_cases e : j = k
            · subst e; rw [HS1.out]; exact HY.out
            · exact hall.out j (by omega) hj'
          · have q1 : (sy != 1) = true := by rw [bne_iff_ne]; exact hy1
            have q2 : (sy != -1) = true := by rw [bne_iff_ne]; exact hy2
            have HY := hide (show stepOk N.pcs.length (sq, sy) = false by
              rw [HOK.out, H1.out, Bool.true_and, Bool.or_eq_false_iff, beq_eq_false_iff_ne, beq_eq_false_iff_ne]
              exact ⟨hy1, hy2⟩)
            clear hy1 hy2
            go_wp2_with fail
            refine (l1in_b H1.out _).mono ?_
            rintro e w3 ⟨rfl, rfl⟩
            go_wp2_with fail
            go_ret
            rw [HBAD.out HY.out]
            exact ⟨_, rfl, World.ownsRow_nil _ _ _ _, HX2.out.below⟩
    have HSP := hide (steps_good hl4 (fun j hj => hall.out j (by omega) hj))
    have t1 := HSX.out.n1
    have t2 := HSX.out.p2
    clear hall
    go_wp2_with fail
    refine (l4lies_any a a' z N cap cap' zc ss _ hn hl HME.out HNET.out HSP.out (HJ.out.later HSX.out.below) (HZ.out.later HSX.out.below)).mono ?_
    rintro e w4 ⟨v, okl, rfl, hR, hb4⟩
    have HX4 := hide (HSX.out.later hb4)
    have p1 := HX4.out.p1
    have p2 := HX4.out.p2
    have s0 := HX4.out.s0
    have s1 := HX4.out.s1
    have s2 := HX4.out.s2
    have hlb := cell_lt s0
    have hlb2 := cell_lt p2
    clear hb4 HSX t0 t1 t2 hz0
    rcases hR with ⟨hq, rfl, rfl⟩ | ⟨out, hq, rfl, _, _⟩
    · have HR := hide (show stretchP N ok far ss q at' wy = [] from str_not fun h' => h'.2.2.2.2.2.2.2 (by rw [← liesQ_of HNET.out HSP.out]; exact hq))
      go_wp2_with fail
      go_ret
      rw [HR.out]
      exact ⟨_, rfl, World.ownsRow_nil _ _ _ _, HX4.out.below⟩
    have HSO := hide (show StrOk N ok far ss q at' wy from ⟨HOKB.out, HNET.out, HSPOT.out, HFAR.out, hl0, HFIRST.out, HSP.out, by rw [← liesQ_of HNET.out HSP.out, hq]; simp⟩)
    clear hq
    go_upto_region 15 with fail
    have hAl := (Below.refl w4.heap.size w4).alloc (Nat.le_refl _) (.cells #[.int .i64 q, .int .i64 at', .int .i64 wy] 29)
    have e0 := new_cell w4 #[.int .i64 q, .int .i64 at', .int .i64 wy] 29 0 _ rfl
    have e1 := new_cell w4 #[.int .i64 q, .int .i64 at', .int .i64 wy] 29 1 _ rfl
    have e2 := new_cell w4 #[.int .i64 q, .int .i64 at', .int .i64 wy] 29 2 _ rfl
    have HL0 : Hid (SxL w (w4.alloc (.cells #[.int .i64 q, .int .i64 at', .int .i64 wy] 29)) w4.heap.size (.slice a N.pcs.length cap) (.slice a' N.jts.length cap') (.slice z ss.length zc) q at' wy) :=
      ⟨cell_later' hAl HX4.out.n0, cell_later' hAl HX4.out.n1, cell_later' hAl HX4.out.p2, e0, e1, e2, fun i => by simp [go_sem], by omega, HX4.out.below.trans (hAl.mono HX4.out.below.size)⟩
    have p2 := HL0.out.p2
    have hA0 : w4.heap.size < (w4.alloc (.cells #[.int .i64 q, .int .i64 at', .int .i64 wy] 29)).heap.size := by simp
    clear hAl e0 e1 e2 HX4 p1 s0 s1 s2 hlb hlb2
    generalize w4.alloc (.cells #[.int .i64 q, .int .i64 at', .int .i64 wy] 29) = w5 at *
    generalize w4.heap.size = bA at *
    go_wp2_with fail
    clear p2
    go_loopw [11, 12, 14, 15, 16, 17, 18, 19, 97] (fun s11 s12 _ _ _ _ _ _ i wr => ∃ (t : Nat) (x y zz : Int), t ≤ ss.length ∧ i = .int .i64 t ∧ Hid (t = 0 → x = q ∧ y = at' ∧ zz = wy) ∧ s12 = .int .i64 (strTo N q at' wy far ss t).1 ∧ Hid (wr.ownsRow (bA + 1) 87 3 s11 (strTo N q at' wy far ss t).2.length (partCells (strTo N q at' wy far ss t).2)) ∧ Hid (SxL w wr bA (.slice a N.pcs.length cap) (.slice a' N.jts.length cap') (.slice z ss.length zc) x y zz)) (fun _ _ _ _ _ _ _ _ i _ => ss.length - (intOf i).toNat)
    case atStart => exact ⟨0, q, at', wy, Nat.zero_le _, rfl, fun _ => ⟨rfl, rfl, rfl⟩, rfl, World.ownsRow_nil _ _ _ _, HL0.out⟩
    case round =>
      obtain ⟨t, x, y, zz, ht, rfl, HT0, rfl, HOW, HSL⟩ := hrel
      have htf := strTo_bd HNET.out HSPOT.out HSP.out (far := far) hf0 ht
      have HTL := hide (strTo_len N q at' wy far ss t)
      have htl : (strTo N q at' wy far ss t).2.length ≤ 400 := by rw [HTL.out]; omega
      by_cases hlt : t < ss.length
      · obtain ⟨sb, so, rfl, d0, d1⟩ := (EndsAt.later HZ.out HSL.out.below) t hlt
        have hti : (t : Int) < (ss.length : Int) := by omega
        have hsbl := cell_lt d0
        have hO := steps_at HSP.out hlt
        have hg0 : ss[t]! = ss[t] := by simp [hlt]
        have hgs := atStep_spot HNET.out HSPOT.out HSP.out hlt
        have HSUC := hide (show strTo N q at' wy far ss (t + 1) = ((strTo N q at' wy far ss t).1 - goP N (strTo N q at' wy far ss t).1 (atStep N q at' wy ss t), (strTo N q at' wy far ss t).2 ++ [partP (atStep N q at' wy ss t).1 (atStep N q at' wy ss t).2.1 ((atStep N q at' wy ss t).2.1 + goP N (strTo N q at' wy far ss t).1 (atStep N q at' wy ss t) * (atStep N q at' wy ss t).2.2)]) from rfl)
        have hgo := goP_bd hgs htf.1
        have HGO := hide (show goP N (strTo N q at' wy far ss t).1 (atStep N q at' wy ss t) = if roomP N (atStep N q at' wy ss t).1 (atStep N q at' wy ss t).2.1 (atStep N q at' wy ss t).2.2 > (strTo N q at' wy far ss t).1 then (strTo N q at' wy far ss t).1 else roomP N (atStep N q at' wy ss t).1 (atStep N q at' wy ss t).2.1 (atStep N q at' wy ss t).2.2 from rfl)
        have HAT0 := hide (show t = 0 → atStep N q at' wy ss t = (q, at', wy) from fun e => by rw [e]; rfl)
        have HAT1 := hide (show ¬ t = 0 → atStep N q at' wy ss t = enterP N (headP ss[t]!.1 (-ss[t]!.2)) from fun e => if_neg e)
        generalize hge : atStep N q at' wy ss t = g at *
        generalize goP N (strTo N q at' wy far ss t).1 g = st at *
        generalize (strTo N q at' wy far ss t).1 = lf at *
        generalize (strTo N q at' wy far ss t).2 = ps at *
        obtain ⟨gx, gy, gz⟩ := g
        rw [hg0] at hO HAT1
        generalize ss[t] = u at *
        obtain ⟨u1, u2⟩ := u
        dsimp only at *
        obtain ⟨fx, fy, hF⟩ : ∃ fx fy, headP u1 (-u2) = (fx, fy) := ⟨_, _, rfl⟩
        have htw : u2 = 1 ∨ u2 = -1 := by simp [stepOk] at hO; omega
        have HE2 := hide (show endOk N.pcs.length (fx, fy) = true by have := (stepOk_ends hO).2; dsimp only at this; rw [hF] at this; exact this)
        have HF := hide hF
        have HEN := hide (show ¬ t = 0 → enterP N (fx, fy) = (gx, gy, gz) from fun e => by rw [← hF]; exact (HAT1.out e).symm)
        have HGS := hide hgs
        have hneg : IntKind.i64.wrap (-u2) = -u2 := by rw [IntKind.wrap_i64]; omega
        have p2 := HSL.out.p2
        have HXG : Hid (XG wr wr (w.heap.size + 1) sb (so + t * 2) (.slice (some ⟨sb, so, none⟩) ss.length zc) u1 u2) := ⟨⟨p2, d0, d1⟩, Below.refl _ _⟩
        have hp2l := cell_lt p2
        clear hge hg0 hO hF HAT1 hgs p2 d0 d1
        go_upto_if 101 with fail
        go_cut [97, 101] from 97 to 153 (fun s97 _ wx => s97 = .int .i64 t ∧ Hid (SxL w wx bA (.slice a N.pcs.length cap) (.slice a' N.jts.length cap') (.slice (some ⟨sb, so, none⟩) ss.length zc) gx gy gz) ∧ Hid (wx.ownsRow (bA + 1) 87 3 u11 ps.length (partCells ps)))
        case first =>
          by_cases h0 : t = 0
          · have hc : ¬ 0 < t := by omega
            have HS2 : Hid (SxL w wr bA (.slice a N.pcs.length cap) (.slice a' N.jts.length cap') (.slice (some ⟨sb, so, none⟩) ss.length zc) gx gy gz) := by
              obtain ⟨e1, e2, e3⟩ := HT0.out h0
              have e4 := HAT0.out h0
              obtain ⟨f1, f2, f3⟩ : gx = q ∧ gy = at' ∧ gz = wy := by simpa using e4
              have := HSL.out
              rw [e1, e2, e3] at this
              rw [f1, f2, f3]
              exact this
            clear h0
            go_wp2_with fail
            go_meet
            case rel => exact ⟨rfl, HS2, HOW⟩
          · have hc : 0 < t := by omega
            have HEN := hide (HEN.out h0)
            have HE3 := hide (And.intro HEN.out HE2.out)
            clear h0
            go_upto_region 19 with fail
            go_cut [15, 97] from 97 to 153 (fun s15 s97 wx => s97 = .int .i64 t ∧ ∃ (b8 : Nat), s15 = .pointer (some ⟨b8, 0, none⟩) ∧ (wx.cell? ⟨b8, 0, none⟩ = some (.int .i64 fx) ∧ wx.cell? ⟨b8, 1, none⟩ = some (.int .i64 fy)) ∧ Below wr.heap.size wr wx ∧ wr.heap.size ≤ b8)
            case first =>
              go_region_held3 (fun wx => XG wr wx (w.heap.size + 1) sb (so + t * 2) (.slice (some ⟨sb, so, none⟩) ss.length zc) u1 u2)
                (first
                  | (exact keepXG ((Below.refl wr.heap.size wr).drew) HXG.out)
                  | (exact keepXG (((Below.refl wr.heap.size wr).alloc (Nat.le_refl _) _).drew) HXG.out)
                  | (exact HGB.out)
                  | (exact keepXG ((Below.refl wB.heap.size wB).alloc (Nat.le_refl _) _) HGB.out)
                  | (exact putXG (by omega) hp2l hsbl HGB.out _ _))
                (first
                  | (go_at_call 36; refine (l3head_at HF.out _).mono ?_; rintro e wB ⟨rfl, hbB⟩; have HGB : Hid (XG wr wB (w.heap.size + 1) sb (so + t * 2) (.slice (some ⟨sb, so, none⟩) ss.length zc) u1 u2) := keepXG hbB (by assumption); have sB : wr.heap.size ≤ wB.heap.size := (heldB HGB.out).size; try (have y2 : Zero2 wB wr.heap.size := zero2_of hbB; obtain ⟨⟨y0, y1⟩, f0, f1⟩ := y2)))
              all_goals
                rename_i hHS
                have hbx := heldB hHS
                go_wp2_with fail
                go_meet
                first
                  | exact ⟨rfl, _, rfl, in2_put ⟨⟨y0, y1⟩, f0, f1⟩ fx fy, hbx, by omega⟩
                  | exact ⟨rfl, _, rfl, ⟨new_cell wB _ _ 0 _ rfl, new_cell wB _ _ 1 _ rfl⟩, hbx, by omega⟩
            case rest =>
              obtain ⟨rfl, b8, rfl, ⟨x0, x1⟩, hb2, hb8⟩ := hcut
              rename World => w2
              have HS2 := hide (HSL.out.later hb2)
              have HOW2 := hide (owns_later' HOW.out hb2)
              have n0 := HS2.out.n0
              have n1 := HS2.out.n1
              have hlo := HS2.out.lo
              obtain ⟨kf, hkf⟩ : ∃ kf : Nat, fx = (kf : Int) ∧ kf < N.pcs.length := by
                have h := HE3.out.2
                simp only [endOk, inR, Bool.and_eq_true, decide_eq_true_eq] at h
                exact ⟨fx.toNat, by omega, by omega⟩
              obtain ⟨hkf1, hkf2⟩ := hkf
              subst hkf1
              clear hb2
              go_wp2_with fail
              refine (l3enter_any a a' N cap cap' kf fy _ hkf2 (HP.out.later HS2.out.below)).mono ?_
              rintro e w3 ⟨rfl, hb3⟩
              rw [HE3.out.1]
              have HS3 := hide (HS2.out.later hb3)
              have HOW3 := hide (owns_later' HOW2.out hb3)
              have c0 := HS3.out.c0
              have c1 := HS3.out.c1
              have c2 := HS3.out.c2
              have f0 := HS3.out.fz 0
              have f1 := HS3.out.fz 1
              have f2 := HS3.out.fz 2
              have hcl := cell_lt c0
              clear hb3 n0 n1 x0 x1
              dsimp only
              go_wp2_with fail
              go_meet
              case rel => exact ⟨rfl, HS3.out.put gx gy gz, ownsRow_setCell_below (ownsRow_setCell_below (ownsRow_setCell_below HOW3.out (by show bA < bA + 1; omega) _) (by show bA < bA + 1; omega) _) (by show bA < bA + 1; omega) _⟩
        case rest =>
          obtain ⟨rfl, HSL, HOW⟩ := hcut
          obtain ⟨gk, rfl, hgk⟩ : ∃ gk : Nat, gx = (gk : Int) ∧ gk < N.pcs.length := by
            have h := HGS.out
            simp only [spotP, inR, Bool.and_eq_true, decide_eq_true_eq] at h
            exact ⟨gx.toNat, by omega, by omega⟩
          have hgz := spot_way HGS.out
          have hlen := lenAt_pos HNET.out (gk : Int) (by omega) (by omega)
          have hgy : 0 ≤ gy ∧ gy ≤ lenAt N gk := by
            have h := HGS.out
            simp only [spotP, inR, Bool.and_eq_true, decide_eq_true_eq] at h
            omega
          rw [lenAt_nat N gk hgk] at hlen hgy
          have n0 := HSL.out.n0
          have n1 := HSL.out.n1
          have c0 := HSL.out.c0
          have c1 := HSL.out.c1
          have c2 := HSL.out.c2
          go_wp2_with fail
          refine (l3room_any a a' N cap cap' gk gy gz _ hgk (by omega) (by omega) (HP.out.later HSL.out.below)).mono ?_
          rintro e w6 ⟨rfl, hb6⟩
          have HS6 := hide (HSL.out.later hb6)
          have HOW6 := hide (owns_later' HOW.out hb6)
          have c0 := HS6.out.c0
          have c1 := HS6.out.c1
          have c2 := HS6.out.c2
          have hcl := cell_lt c0
          have HLT := hide (fun g h => (HOW6.out.lt g h).1)
          have hml : ps.length + 1 ≤ maxLen := by unfold maxLen; omega
          have HRV := hide (show roomP N gk gy gz = if gz = 1 then N.pcs[gk].len - gy else gy by unfold roomP; rw [lenAt_nat N gk hgk])
          have hrb : 0 ≤ roomP N gk gy gz ∧ roomP N gk gy gz ≤ 10000000 := by
            rw [HRV.out]
            split <;> omega
          clear hb6 n0 n1 HSL HOW HXG HT0 HAT0 HEN HF HE2
          generalize roomP N gk gy gz = rm at *
          go_upto_if 125 with fail
          go_cut [16, 97, 125] from 97 to 153 (fun s16 s97 _ wx => s16 = .int .i64 st ∧ s97 = .int .i64 t ∧ wx = w6)
          case first =>
            by_cases hgt : rm > lf
            · have HG2 := hide (show st = lf by rw [HGO.out, if_pos hgt])
              go_wp2_with fail
              go_meet
              case rel => exact ⟨by rw [HG2.out], rfl, rfl⟩
            · have HG2 := hide (show st = rm by rw [HGO.out, if_neg hgt])
              go_wp2_with fail
              go_meet
              case rel => exact ⟨by rw [HG2.out], rfl, rfl⟩
          case rest =>
            obtain ⟨rfl, rfl, rfl⟩ := hcut
            rename World => w6
            have hsb2 : gz = 1 → gy + st ≤ N.pcs[gk].len := fun e => by
              have h := HRV.out
              rw [if_pos e] at h
              omega
            have hsb3 : gz = -1 → st ≤ gy := fun e => by
              have h := HRV.out
              rw [if_neg (by omega)] at h
              omega
            clear HGO HRV
            rcases hgz with rfl | rfl
            · have hsb2 := hsb2 rfl
              clear hsb3
              have hxy : ¬ gy > gy + st := by omega
              go_wp2_with (first
                | (at_builtin; (refine wpList_append_lies _ rfl _ _ _ rfl (bA + 1) 87 i0 _ 3 24 Tryz.underlying43 HI.out HZ0.out HZ1.out HZ2.out rfl (by omega) u11 ps.length (partCells ps) rfl (HOW6.out.alloc _) ⟨w6.heap.size, 0, none⟩ 1 1 [.int .i64 gk, .int .i64 _, .int .i64 _] rfl rfl (news_at rfl) (by simp [Value.oneCell']) (by omega) hml (by omega) (by simp; omega) _ rfl ?_); intro g2 c2' w7 hown2 hgrow2 _ hlt2))
              have HL7 := hide ((HS6.out.later ((Below.refl _ _).alloc (Nat.le_refl _) _)).grown hgrow2 HLT.out)
              have e2 : partCells (ps ++ [partP gk gy (gy + st * 1)]) = partCells ps ++ [.int .i64 gk, .int .i64 (gy), .int .i64 (gy + st)] := by
                have : partP gk gy (gy + st * 1) = ((gk : Int), gy, gy + st) := by
                  have he : gy + st * 1 = gy + st := by omega
                  rw [he]
                  unfold partP
                  split <;> first | rfl | (exfalso; omega)
                rw [partCells_app, this]
                rfl
              refine ⟨⟨t + 1, gk, gy, 1, by omega, by go_num, (fun e => by omega), (by rw [HSUC.out]; first | done | simp), ?_, HL7.out⟩, by simp [intOf]; omega⟩
              show World.ownsRow _ _ _ _ _ _ _
              rw [HSUC.out]
              dsimp only
              rw [e2, List.length_append]
              exact hown2
            · have hsb3 := hsb3 rfl
              clear hsb2
              by_cases hst : st = 0
              · subst hst
                go_wp2_with (first
                  | (at_builtin; (refine wpList_append_lies _ rfl _ _ _ rfl (bA + 1) 87 i0 _ 3 24 Tryz.underlying43 HI.out HZ0.out HZ1.out HZ2.out rfl (by omega) u11 ps.length (partCells ps) rfl (HOW6.out.alloc _) ⟨w6.heap.size, 0, none⟩ 1 1 [.int .i64 gk, .int .i64 _, .int .i64 _] rfl rfl (news_at rfl) (by simp [Value.oneCell']) (by omega) hml (by omega) (by simp; omega) _ rfl ?_); intro g2 c2' w7 hown2 hgrow2 _ hlt2))
                have HL7 := hide ((HS6.out.later ((Below.refl _ _).alloc (Nat.le_refl _) _)).grown hgrow2 HLT.out)
                have e2 : partCells (ps ++ [partP gk gy (gy + 0 * -1)]) = partCells ps ++ [.int .i64 gk, .int .i64 (gy), .int .i64 (gy)] := by
                  have : partP gk gy (gy + 0 * -1) = ((gk : Int), gy, gy) := by
                    have he : gy + 0 * -1 = gy := by omega
                    rw [he]
                    unfold partP
                    split <;> first | rfl | (exfalso; omega)
                  rw [partCells_app, this]
                  rfl
                refine ⟨⟨t + 1, gk, gy, -1, by omega, by go_num, (fun e => by omega), (by rw [HSUC.out]; first | done | simp), ?_, HL7.out⟩, by simp [intOf]; omega⟩
                show World.ownsRow _ _ _ _ _ _ _
                rw [HSUC.out]
                dsimp only
                rw [e2, List.length_append]
                exact hown2
              · have hxy : gy > gy + -st := by omega
                go_wp2_with (first
                  | (at_builtin; (refine wpList_append_lies _ rfl _ _ _ rfl (bA + 1) 87 i0 _ 3 24 Tryz.underlying43 HI.out HZ0.out HZ1.out HZ2.out rfl (by omega) u11 ps.length (partCells ps) rfl (HOW6.out.alloc _) ⟨w6.heap.size, 0, none⟩ 1 1 [.int .i64 gk, .int .i64 _, .int .i64 _] rfl rfl (news_at rfl) (by simp [Value.oneCell']) (by omega) hml (by omega) (by simp; omega) _ rfl ?_); intro g2 c2' w7 hown2 hgrow2 _ hlt2))
                have HL7 := hide ((HS6.out.later ((Below.refl _ _).alloc (Nat.le_refl _) _)).grown hgrow2 HLT.out)
                have e2 : partCells (ps ++ [partP gk gy (gy + st * -1)]) = partCells ps ++ [.int .i64 gk, .int .i64 (gy + -st), .int .i64 (gy)] := by
                  have : partP gk gy (gy + st * -1) = ((gk : Int), gy + -st, gy) := by
                    have he : gy + st * -1 = gy + -st := by omega
                    rw [he]
                    unfold partP
                    split <;> first | rfl | (exfalso; omega)
                  rw [partCells_app, this]
                  rfl
                refine ⟨⟨t + 1, gk, gy, -1, by omega, by go_num, (fun e => by omega), (by rw [HSUC.out]; first | done | simp), ?_, HL7.out⟩, by simp [intOf]; omega⟩
                show World.ownsRow _ _ _ _ _ _ _
                rw [HSUC.out]
                dsimp only
                rw [e2, List.length_append]
                exact hown2
      · have HEND := hide (show t = ss.length by omega)
        by_cases hlf : (strTo N q at' wy far ss t).1 > 0
        · have HR := hide (str_left HSO.out (by rw [← HEND.out]; exact hlf))
          go_wp2_with fail
          go_ret
          rw [HR.out]
          exact ⟨_, rfl, World.ownsRow_nil _ _ _ _, HSL.out.below⟩
        · have HR := hide (str_all HSO.out (by rw [← HEND.out]; exact hlf))
          go_wp2_with fail
          go_ret
          rw [HR.out, ← HEND.out]
          exact ⟨_, rfl, owns_low HOW.out (by have := HSL.out.lo; omega), HSL.out.below⟩
end Go.Proofs.YtldafgbhjpfboaaGreat
