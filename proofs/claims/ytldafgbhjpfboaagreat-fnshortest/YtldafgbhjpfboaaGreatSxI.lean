/- impl.Stretch and what it calls. Own work. -/
import Derived.Test.YtldafgbhjpfboaaGreatMxAO
import Derived.Test.YtldafgbhjpfboaaGreatWaE
import Derived.Test.YtldafgbhjpfboaaGreatMxAL
import Derived.Test.YtldafgbhjpfboaaGreatCuR1
import Derived.Test.YtldafgbhjpfboaaGreatMxAI
import Derived.Test.YtldafgbhjpfboaaGreatMxAN
import Derived.Test.YtldafgbhjpfboaaGreatDrS
import Derived.Deep.AppendLies
import Derived.Lib.QuietBelow
import Derived.BigQuiet
import Derived.Deep.CutRange
namespace Go.Proofs.YtldafgbhjpfboaaGreat
open Go.RowKit Go.Sort
set_option maxHeartbeats 8000000
set_option maxRecDepth 20000

theorem spotStep_any (q at' wy : Int) (w : World) : Calls Tryz.prog 31 #[.agg #[.int .i64 q, .int .i64 at', .int .i64 wy]] w fun e w' => e = .returned (.agg #[.int .i64 q, .int .i64 wy]) ∧ Below w.heap.size w w' := by
  go_enter Tryz.func31, Tryz.ntmps31
  go_wp2_with fail
  exact bodyPost_ret (v := .agg #[.int .i64 q, .int .i64 wy]) (by simp [results, Tryz.results31, go_sem]) rfl ⟨rfl, ((Below.refl _ _).alloc (Nat.le_refl _) _).alloc (by simp) _⟩

theorem room_qr (q a wy len : Int) (w : World) (hwy : wy = 1 ∨ wy = -1) (hl : 0 ≤ len ∧ len ≤ 10000000) (ha : 0 ≤ a ∧ a ≤ 10000000) {r : Int} (hr : (if wy = 1 then len - a else a) = r) (d : Nat) (os : Array Obj) :
    Calls Tryz.prog 70 #[.agg #[.int .i64 q, .int .i64 a, .int .i64 wy], .int .i64 len] (grow (redrawn w d) os) fun e w'' => e = .returned (.int .i64 r) ∧ ∃ p : Regrown, w'' = grow (redrawn w p.d) p.os := by
  subst hr
  exact Calls.regrown_of (room_any q a wy len _ hwy hl ha)

theorem layAhead_any (a a' : Option Addr) (N : Nt) (cap cap' m k : Nat) (at' wy : Int) (w : World) (hk : k < N.pcs.length) (hwy : wy = 1 ∨ wy = -1) (hl : 0 ≤ N.pcs[k].len ∧ N.pcs[k].len ≤ 10000000) (ha : 0 ≤ at' ∧ at' ≤ 10000000) (hp : PcsAt w a N.pcs) :
    Calls Tryz.prog 46 #[.agg #[.slice a N.pcs.length cap, .slice a' N.jts.length cap', .map (some m)], .agg #[.int .i64 k, .int .i64 at', .int .i64 wy]] w fun e w' => e = .returned (.int .i64 (roomP N k at' wy)) ∧ Below w.heap.size w w' := by
  have hW : Below w.heap.size w ((w.alloc (.cells #[.slice a N.pcs.length cap, .slice a' N.jts.length cap', .map (some m)] 66)).alloc (.cells #[.int .i64 k, .int .i64 at', .int .i64 wy] 29)) := ((Below.refl _ _).alloc (Nat.le_refl _) _).alloc (by simp) _
  have HW := hide hW
  obtain ⟨b, off, rfl, _, c1, _⟩ := hp.later hW k hk
  have t0 : ((w.alloc (.cells #[.slice (some ⟨b, off, none⟩) N.pcs.length cap, .slice a' N.jts.length cap', .map (some m)] 66)).alloc (.cells #[.int .i64 k, .int .i64 at', .int .i64 wy] 29)).cell? ⟨w.heap.size, 0, none⟩ = some (.slice (some ⟨b, off, none⟩) N.pcs.length cap) := by simp [go_sem]
  have e0 : ((w.alloc (.cells #[.slice (some ⟨b, off, none⟩) N.pcs.length cap, .slice a' N.jts.length cap', .map (some m)] 66)).alloc (.cells #[.int .i64 k, .int .i64 at', .int .i64 wy] 29)).cell? ⟨w.heap.size + 1, 0, none⟩ = some (.int .i64 k) := by simp [go_sem]
  have e1 : ((w.alloc (.cells #[.slice (some ⟨b, off, none⟩) N.pcs.length cap, .slice a' N.jts.length cap', .map (some m)] 66)).alloc (.cells #[.int .i64 k, .int .i64 at', .int .i64 wy] 29)).cell? ⟨w.heap.size + 1, 1, none⟩ = some (.int .i64 at') := by simp [go_sem]
  have e2 : ((w.alloc (.cells #[.slice (some ⟨b, off, none⟩) N.pcs.length cap, .slice a' N.jts.length cap', .map (some m)] 66)).alloc (.cells #[.int .i64 k, .int .i64 at', .int .i64 wy] 29)).cell? ⟨w.heap.size + 1, 2, none⟩ = some (.int .i64 wy) := by simp [go_sem]
  have k0 := cell_regrown t0
  have k1 := cell_regrown e0
  have k2 := cell_regrown e1
  have k3 := cell_regrown e2
  have k4 := cell_regrown c1
  have hki : (k : Int) < (N.pcs.length : Int) := by omega
  have HRV := hide (show roomP N k at' wy = if wy = 1 then N.pcs[k].len - at' else at' by unfold roomP; rw [lenAt_nat N k hk])
  have HWY := hide hwy
  clear hW t0 e0 e1 e2 c1 hwy
  go_enter Tryz.func46, Tryz.ntmps46
  go_upto_region 1 with fail
  generalize ((w.alloc (.cells #[.slice (some ⟨b, off, none⟩) N.pcs.length cap, .slice a' N.jts.length cap', .map (some m)] 66)).alloc (.cells #[.int .i64 k, .int .i64 at', .int .i64 wy] 29)) = w1 at *
  refine wp_region_quiet_below (by kernel_rfl) (by kernel_rfl) ?_
  repeat (go_big_quiet_step (first | exact room_qr _ _ _ _ _ HWY.out hl ha HRV.out.symm _ _))
  refine wpQuiet_nil ?_
  intro _ hw'
  obtain ⟨⟨dq, osq⟩, hw''⟩ := hw'
  subst hw''
  go_wp2_with fail
  go_ret
  exact ⟨rfl, HW.out.trans ((below_regrown w1 dq osq).mono HW.out.size)⟩

abbrev LBx (w wx : World) (v0 : Value) (s1 s2 : Int) : Prop := (wx.cell? ⟨w.heap.size, 0, none⟩ = some v0 ∧ wx.cell? ⟨w.heap.size + 1, 0, none⟩ = some (.int .i64 s1) ∧ wx.cell? ⟨w.heap.size + 1, 1, none⟩ = some (.int .i64 s2)) ∧ Hid (Below w.heap.size w wx)
theorem keepLBx {w w2 w3 : World} {v0 : Value} {s1 s2 : Int} (hb : Below w2.heap.size w2 w3) (h : LBx w w2 v0 s1 s2) : LBx w w3 v0 s1 s2 :=
  ⟨⟨cell_later' hb h.1.1, cell_later' hb h.1.2.1, cell_later' hb h.1.2.2⟩, h.2.out.trans (hb.mono h.2.out.size)⟩
theorem putLBx {w w2 : World} {v0 : Value} {s1 s2 : Int} (h : LBx w w2 v0 s1 s2) (x y z : Value) : LBx w (((w2.setCell ⟨w.heap.size + 1 + 1, 0, none⟩ x).setCell ⟨w.heap.size + 1 + 1, 1, none⟩ y).setCell ⟨w.heap.size + 1 + 1, 2, none⟩ z) v0 s1 s2 := by
  have e : ∀ (W : World) (o : Nat) (v : Value) (c i : Nat) (u : Value), c < w.heap.size + 1 + 1 → W.cell? ⟨c, i, none⟩ = some u → (W.setCell ⟨w.heap.size + 1 + 1, o, none⟩ v).cell? ⟨c, i, none⟩ = some u := fun W o v c i u hc hu => by
    rw [World.cell?_setCell_far W ⟨w.heap.size + 1 + 1, o, none⟩ ⟨c, i, none⟩ v (by show w.heap.size + 1 + 1 ≠ c; omega)]; exact hu
  exact ⟨⟨e _ _ _ _ _ _ (by omega) (e _ _ _ _ _ _ (by omega) (e _ _ _ _ _ _ (by omega) h.1.1)), e _ _ _ _ _ _ (by omega) (e _ _ _ _ _ _ (by omega) (e _ _ _ _ _ _ (by omega) h.1.2.1)), e _ _ _ _ _ _ (by omega) (e _ _ _ _ _ _ (by omega) (e _ _ _ _ _ _ (by omega) h.1.2.2))⟩,
    ((h.2.out.setCell (by show w.heap.size ≤ w.heap.size + 1 + 1; omega) _).setCell (by show w.heap.size ≤ w.heap.size + 1 + 1; omega) _).setCell (by show w.heap.size ≤ w.heap.size + 1 + 1; omega) _⟩

theorem layBegin_any (a a' : Option Addr) (N : Nt) (cap cap' m : Nat) (s1 s2 gx gy gz : Int) (w : World) (hs : stepOk N.pcs.length (s1, s2) = true) (hg : enterP N (headP s1 (-s2)) = (gx, gy, gz)) (hp : PcsAt w a N.pcs) :
    Calls Tryz.prog 47 #[.agg #[.slice a N.pcs.length cap, .slice a' N.jts.length cap', .map (some m)], .agg #[.int .i64 s1, .int .i64 s2]] w fun e w' => e = .returned (.agg #[.int .i64 gx, .int .i64 gy, .int .i64 gz]) ∧ Below w.heap.size w w' := by
  have HP := hide hp
  have hwy : s2 = 1 ∨ s2 = -1 := by simp [stepOk] at hs; omega
  have hE := (stepOk_ends hs).2
  obtain ⟨fx, fy, hF⟩ : ∃ fx fy, headP s1 (-s2) = (fx, fy) := ⟨_, _, rfl⟩
  dsimp only at hE
  rw [hF] at hE hg
  obtain ⟨kf, hkf1, hkf2, hfy⟩ : ∃ kf : Nat, fx = (kf : Int) ∧ kf < N.pcs.length ∧ (fy = 0 ∨ fy = 1) := by
    simp only [endOk, inR, Bool.and_eq_true, decide_eq_true_eq] at hE
    exact ⟨fx.toNat, by omega, by omega, by omega⟩
  subst hkf1
  have HF := hide hF
  have HG := hide hg
  clear hs hE hp hF hg
  have HL1 : Hid (LBx w (((w.alloc (.cells #[.slice a N.pcs.length cap, .slice a' N.jts.length cap', .map (some m)] 66)).alloc (.cells #[.int .i64 s1, .int .i64 s2] 37)).alloc (.cells #[.int .i64 0, .int .i64 0, .int .i64 0] 29)) (.slice a N.pcs.length cap) s1 s2) :=
    ⟨⟨by simp [go_sem], by simp [go_sem], by simp [go_sem]⟩, (((Below.refl _ _).alloc (Nat.le_refl _) _).alloc (by simp) _).alloc (by simp; omega) _⟩
  have y := fun i v h => new_cell ((w.alloc (.cells #[.slice a N.pcs.length cap, .slice a' N.jts.length cap', .map (some m)] 66)).alloc (.cells #[.int .i64 s1, .int .i64 s2] 37)) #[.int .i64 0, .int .i64 0, .int .i64 0] 29 i v h
  have y0 := y 0 _ rfl
  have y1 := y 1 _ rfl
  have y2 := y 2 _ rfl
  have f : ∀ i, (((w.alloc (.cells #[.slice a N.pcs.length cap, .slice a' N.jts.length cap', .map (some m)] 66)).alloc (.cells #[.int .i64 s1, .int .i64 s2] 37)).alloc (.cells #[.int .i64 0, .int .i64 0, .int .i64 0] 29)).frozen? ⟨w.heap.size + 1 + 1, i, none⟩ = false := fun i => by simp [go_sem]
  rw [World.size_alloc, World.size_alloc] at y0 y1 y2
  have HY := hide (And.intro y0 (And.intro y1 (And.intro y2 f)))
  clear y y0 y1 y2 f
  go_enter Tryz.func47, Tryz.ntmps47
  go_upto_region 1 with fail
  generalize (((w.alloc (.cells #[.slice a N.pcs.length cap, .slice a' N.jts.length cap', .map (some m)] 66)).alloc (.cells #[.int .i64 s1, .int .i64 s2] 37)).alloc (.cells #[.int .i64 0, .int .i64 0, .int .i64 0] 29)) = w1 at *
  have hlt1 := cell_lt HY.out.1
  have hd1 : Below w1.heap.size w1 w1.drew := (Below.refl _ _).drew
  go_region_held3 (fun wx => LBx w wx (.slice a N.pcs.length cap) s1 s2)
    (first
      | (exact keepLBx hd1 HL1.out)
      | (exact HL2.out)
      | (exact HL3.out)
      | (exact putLBx HL3.out _ _ _))
    (first
      | (go_at_call 72; refine (stepFrom_at hwy HF.out _).mono ?_; rintro e w2 ⟨rfl, hb2⟩; have HL2 := hide (keepLBx hb2 (keepLBx hd1 HL1.out)))
      | (go_at_call 71; refine (entry_any a N cap kf fy _ hkf2 hfy (HP.out.later (heldB HL2.out))).mono ?_; rintro e w3 ⟨rfl, hb3⟩; rw [HG.out]; have HL3 := hide (keepLBx hb3 HL2.out); have y0 := cell_later' ((hd1.trans hb2).trans (hb3.mono (hd1.trans hb2).size)) HY.out.1; have y1 := cell_later' ((hd1.trans hb2).trans (hb3.mono (hd1.trans hb2).size)) HY.out.2.1; have y2 := cell_later' ((hd1.trans hb2).trans (hb3.mono (hd1.trans hb2).size)) HY.out.2.2.1; have f0 := frozen_later ((hd1.trans hb2).trans (hb3.mono (hd1.trans hb2).size)) HY.out.1 (HY.out.2.2.2 0); have f1 := frozen_later ((hd1.trans hb2).trans (hb3.mono (hd1.trans hb2).size)) HY.out.2.1 (HY.out.2.2.2 1); have f2 := frozen_later ((hd1.trans hb2).trans (hb3.mono (hd1.trans hb2).size)) HY.out.2.2.1 (HY.out.2.2.2 2); dsimp only))
  have HB2 := hide (heldB HL3.out)
  clear HL3
  go_wp2_with fail
  refine bodyPost_ret (v := .agg #[.int .i64 gx, .int .i64 gy, .int .i64 gz]) (by simp [results, Tryz.results47, go_sem, y0, y1, y2]) rfl ⟨rfl, ?_⟩
  exact ((HB2.out.setCell (by show w.heap.size ≤ w.heap.size + 1 + 1; omega) _).setCell (by show w.heap.size ≤ w.heap.size + 1 + 1; omega) _).setCell (by show w.heap.size ≤ w.heap.size + 1 + 1; omega) _
/-- Between two rounds of spread. -/
structure SpL (w wr : World) (v0 v1 v2 : Value) (x y z : Int) : Prop where
  n0 : wr.cell? ⟨w.heap.size, 0, none⟩ = some v0
  n1 : wr.cell? ⟨w.heap.size, 1, none⟩ = some v1
  n2 : wr.cell? ⟨w.heap.size, 2, none⟩ = some v2
  c0 : wr.cell? ⟨w.heap.size + 1, 0, none⟩ = some (.int .i64 x)
  c1 : wr.cell? ⟨w.heap.size + 1, 1, none⟩ = some (.int .i64 y)
  c2 : wr.cell? ⟨w.heap.size + 1, 2, none⟩ = some (.int .i64 z)
  fz : ∀ i, wr.frozen? ⟨w.heap.size + 1, i, none⟩ = false
  below : Below w.heap.size w wr
theorem SpL.later {w w1 w2 : World} {v0 v1 v2 : Value} {x y z : Int} (h : SpL w w1 v0 v1 v2 x y z) (hb : Below w1.heap.size w1 w2) : SpL w w2 v0 v1 v2 x y z :=
  ⟨cell_later' hb h.n0, cell_later' hb h.n1, cell_later' hb h.n2, cell_later' hb h.c0, cell_later' hb h.c1, cell_later' hb h.c2, fun i => by rw [hb.frozen (p := ⟨w.heap.size + 1, i, none⟩) (cell_lt h.c0)]; exact h.fz i, h.below.trans (hb.mono h.below.size)⟩
theorem SpL.put {w w1 : World} {v0 v1 v2 : Value} {x y z : Int} (h : SpL w w1 v0 v1 v2 x y z) (x' y' z' : Int) : SpL w (((w1.setCell ⟨w.heap.size + 1, 0, none⟩ (.int .i64 x')).setCell ⟨w.heap.size + 1, 1, none⟩ (.int .i64 y')).setCell ⟨w.heap.size + 1, 2, none⟩ (.int .i64 z')) v0 v1 v2 x' y' z' := by
  obtain ⟨n0, n1, n2, c0, c1, c2, fz, hb⟩ := h
  have far : ∀ (W : World) (o : Nat) (v : Value) (i : Nat), (W.setCell ⟨w.heap.size + 1, o, none⟩ v).cell? ⟨w.heap.size, i, none⟩ = W.cell? ⟨w.heap.size, i, none⟩ := fun W o v i => World.cell?_setCell_far W ⟨w.heap.size + 1, o, none⟩ ⟨w.heap.size, i, none⟩ v (by show w.heap.size + 1 ≠ w.heap.size; omega)
  refine ⟨by rw [far, far, far]; exact n0, by rw [far, far, far]; exact n1, by rw [far, far, far]; exact n2, by simp [go_sem, c0], by simp [go_sem, c1], by simp [go_sem, c2], fun i => by rw [World.frozen?_setCell, World.frozen?_setCell, World.frozen?_setCell]; exact fz i, ?_⟩
  exact ((hb.setCell (by show w.heap.size ≤ w.heap.size + 1; omega) _).setCell (by show w.heap.size ≤ w.heap.size + 1; omega) _).setCell (by show w.heap.size ≤ w.heap.size + 1; omega) _
theorem SpL.grown {w w1 w2 : World} {v0 v1 v2 : Value} {x y z : Int} {row : Option Nat} (h : SpL w w1 v0 v1 v2 x y z) (hg : w1.grownBy w2 row) (hrow : ∀ g, row = some g → w.heap.size + 1 + 1 ≤ g) : SpL w w2 v0 v1 v2 x y z := by
  have hA := cell_lt h.c0
  have hne : ∀ b, b ≤ w.heap.size + 1 → some b ≠ row := fun b hb e => by have := hrow b e.symm; omega
  have e : ∀ b i, b ≤ w.heap.size + 1 → w2.cell? ⟨b, i, none⟩ = w1.cell? ⟨b, i, none⟩ := fun b i hb => hg.cell_far ⟨b, i, none⟩ (by show b < w1.heap.size; omega) (hne b hb)
  exact ⟨(e _ _ (by omega)).trans h.n0, (e _ _ (by omega)).trans h.n1, (e _ _ (by omega)).trans h.n2, (e _ _ (by omega)).trans h.c0, (e _ _ (by omega)).trans h.c1, (e _ _ (by omega)).trans h.c2, fun i => by rw [hg.frozen_far ⟨w.heap.size + 1, i, none⟩ hA (hne (w.heap.size + 1) (by omega))]; exact h.fz i, h.below.grown hg h.below.size (fun k e => by have := hrow k e; omega)⟩
theorem partCells_app' (ps : List (Int × Int × Int)) (p : Int × Int × Int) : partCells (ps ++ [p]) = partCells ps ++ partCells [p] := by simp [partCells]

theorem spread_any (a a' z : Option Addr) (N : Nt) (cap cap' zc m : Nat) (far : Int) (ss : List (Int × Int)) (q at' wy : Int) (w : World) (hnet : netOk N = (0, 0)) (hspot : spotP N q at' wy = true) (hsteps : stepsP N ss = true) (hf0 : 0 ≤ far) (hf1 : far ≤ 1000000) (hp : PcsAt w a N.pcs) (hz : EndsAt w z ss) :
    Calls Tryz.prog 33 #[.agg #[.slice a N.pcs.length cap, .slice a' N.jts.length cap', .map (some m)], .agg #[.int .i64 q, .int .i64 at', .int .i64 wy], .slice z ss.length zc, .int .i64 far] w fun e w' =>
    ∃ v, e = .returned (.tuple #[v, .int .i64 (strTo N q at' wy far ss ss.length).1]) ∧ w'.ownsRow w.heap.size 87 3 v (strTo N q at' wy far ss ss.length).2.length (partCells (strTo N q at' wy far ss ss.length).2) ∧ Below w.heap.size w w' := by
  obtain ⟨i0, hi, hz0, hz1, hz2⟩ := info_parts infoPart
  have HI := hide hi
  have HZ0 := hide hz0
  have HZ1 := hide hz1
  have HZ2 := hide hz2
  have HP := hide hp
  have HZ := hide hz
  have HNET := hide hnet
  have HSPOT := hide hspot
  have HSP := hide hsteps
  have h400 := steps_few hsteps
  clear hi hz0 hz1 hz2 hp hz hnet hspot hsteps
  have HL0 : Hid (SpL w ((w.alloc (.cells #[.slice a N.pcs.length cap, .slice a' N.jts.length cap', .map (some m)] 66)).alloc (.cells #[.int .i64 q, .int .i64 at', .int .i64 wy] 29)) (.slice a N.pcs.length cap) (.slice a' N.jts.length cap') (.map (some m)) q at' wy) :=
    ⟨by simp [go_sem], by simp [go_sem], by simp [go_sem], by simp [go_sem], by simp [go_sem], by simp [go_sem], fun i => by simp [go_sem], ((Below.refl _ _).alloc (Nat.le_refl _) _).alloc (by simp) _⟩
  go_enter Tryz.func33, Tryz.ntmps33
  go_wp2_with fail
  generalize ((w.alloc (.cells #[.slice a N.pcs.length cap, .slice a' N.jts.length cap', .map (some m)] 66)).alloc (.cells #[.int .i64 q, .int .i64 at', .int .i64 wy] 29)) = w5 at *
  go_loopw [3, 10, 11, 12, 13, 14, 17] (fun s3 s10 _ _ _ _ i wr => ∃ (t : Nat) (x y zz : Int), t ≤ ss.length ∧ i = .int .i64 t ∧ Hid (t = 0 → x = q ∧ y = at' ∧ zz = wy) ∧ s3 = .int .i64 (strTo N q at' wy far ss t).1 ∧ Hid (wr.ownsRow (w.heap.size + 1 + 1) 87 3 s10 (strTo N q at' wy far ss t).2.length (partCells (strTo N q at' wy far ss t).2)) ∧ Hid (SpL w wr (.slice a N.pcs.length cap) (.slice a' N.jts.length cap') (.map (some m)) x y zz)) (fun _ _ _ _ _ _ i _ => ss.length - (intOf i).toNat)
  case atStart => exact ⟨0, q, at', wy, Nat.zero_le _, rfl, fun _ => ⟨rfl, rfl, rfl⟩, rfl, World.ownsRow_nil _ _ _ _, HL0.out⟩
  case round =>
    obtain ⟨t, x, y, zz, ht, rfl, HT0, rfl, HOW, HSL⟩ := hrel
    have htf := strTo_bd HNET.out HSPOT.out HSP.out (far := far) hf0 ht
    have HTL := hide (strTo_len N q at' wy far ss t)
    have htl : (strTo N q at' wy far ss t).2.length ≤ 400 := by rw [HTL.out]; omega
    by_cases hlt : t < ss.length
    · obtain ⟨sb, so, rfl, d0, d1⟩ := (EndsAt.later HZ.out HSL.out.below) t hlt
      have hti : (t : Int) < (ss.length : Int) := by omega
      have hsbl := cell_lt d0
      have hO := steps_at HSP.out hlt
      have hg0 : ss[t]! = ss[t] := by simp [hlt]
      have hgs := atStep_spot HNET.out HSPOT.out HSP.out hlt
      have HSUC := hide (show strTo N q at' wy far ss (t + 1) = ((strTo N q at' wy far ss t).1 - goP N (strTo N q at' wy far ss t).1 (atStep N q at' wy ss t), (strTo N q at' wy far ss t).2 ++ [partP (atStep N q at' wy ss t).1 (atStep N q at' wy ss t).2.1 ((atStep N q at' wy ss t).2.1 + goP N (strTo N q at' wy far ss t).1 (atStep N q at' wy ss t) * (atStep N q at' wy ss t).2.2)]) from rfl)
      have hgo := goP_bd hgs htf.1
      have HGO := hide (show goP N (strTo N q at' wy far ss t).1 (atStep N q at' wy ss t) = if roomP N (atStep N q at' wy ss t).1 (atStep N q at' wy ss t).2.1 (atStep N q at' wy ss t).2.2 > (strTo N q at' wy far ss t).1 then (strTo N q at' wy far ss t).1 else roomP N (atStep N q at' wy ss t).1 (atStep N q at' wy ss t).2.1 (atStep N q at' wy ss t).2.2 from rfl)
      have HAT0 := hide (show t = 0 → atStep N q at' wy ss t = (q, at', wy) from fun e => by rw [e]; rfl)
      have HAT1 := hide (show ¬ t = 0 → atStep N q at' wy ss t = enterP N (headP ss[t]!.1 (-ss[t]!.2)) from fun e => if_neg e)
      generalize hge : atStep N q at' wy ss t = g at *
      generalize goP N (strTo N q at' wy far ss t).1 g = st at *
      generalize (strTo N q at' wy far ss t).1 = lf at *
      generalize (strTo N q at' wy far ss t).2 = ps at *
      obtain ⟨gx, gy, gz⟩ := g
      rw [hg0] at hO HAT1
      generalize ss[t] = u at *
      obtain ⟨u1, u2⟩ := u
      dsimp only at *
      have HO := hide hO
      have HGS := hide hgs
      have HA := hide (HSL.out.later ((Below.refl wr.heap.size wr).alloc (Nat.le_refl _) (.cells #[.int .i64 u1, .int .i64 u2] 37)))
      have HOA := hide (owns_later' HOW.out ((Below.refl wr.heap.size wr).alloc (Nat.le_refl _) (.cells #[.int .i64 u1, .int .i64 u2] 37)))
      have x0 := new_cell wr #[.int .i64 u1, .int .i64 u2] 37 0 _ rfl
      have x1 := new_cell wr #[.int .i64 u1, .int .i64 u2] 37 1 _ rfl
      clear hge hg0 hO hgs
      go_upto_if 23 with fail
      generalize wr.alloc (.cells #[.int .i64 u1, .int .i64 u2] 37) = w2 at *
      generalize wr.heap.size = b12 at *
      go_cut [17, 23] from 17 to 56 (fun s17 _ wx => s17 = .int .i64 t ∧ Hid (SpL w wx (.slice a N.pcs.length cap) (.slice a' N.jts.length cap') (.map (some m)) gx gy gz) ∧ Hid (wx.ownsRow (w.heap.size + 1 + 1) 87 3 u10 ps.length (partCells ps)))
      case first =>
        by_cases h0 : t = 0
        · have hc : ¬ 0 < t := by omega
          have HS2 : Hid (SpL w w2 (.slice a N.pcs.length cap) (.slice a' N.jts.length cap') (.map (some m)) gx gy gz) := by
            obtain ⟨e1, e2, e3⟩ := HT0.out h0
            have e4 := HAT0.out h0
            obtain ⟨f1, f2, f3⟩ : gx = q ∧ gy = at' ∧ gz = wy := by simpa using e4
            have := HA.out
            rw [e1, e2, e3] at this
            rw [f1, f2, f3]
            exact this
          clear h0
          go_wp2_with fail
          go_meet
          case rel => exact ⟨rfl, HS2, HOA⟩
        · have hc : 0 < t := by omega
          have HEN := hide (HAT1.out h0).symm
          clear h0
          have n0 := HA.out.n0
          have n1 := HA.out.n1
          have n2 := HA.out.n2
          go_wp2_with fail
          refine (layBegin_any a a' N cap cap' m u1 u2 gx gy gz _ HO.out HEN.out (HP.out.later HA.out.below)).mono ?_
          rintro e w3 ⟨rfl, hb3⟩
          have HS3 := hide (HA.out.later hb3)
          have HOW3 := hide (owns_later' HOA.out hb3)
          have c0 := HS3.out.c0
          have c1 := HS3.out.c1
          have c2 := HS3.out.c2
          have f0 := HS3.out.fz 0
          have f1 := HS3.out.fz 1
          have f2 := HS3.out.fz 2
          have hcl := cell_lt c0
          clear hb3 n0 n1 n2 x0 x1
          go_wp2_with fail
          go_meet
          case rel => exact ⟨rfl, HS3.out.put gx gy gz, ownsRow_setCell_below (ownsRow_setCell_below (ownsRow_setCell_below HOW3.out (by show w.heap.size + 1 < w.heap.size + 1 + 1; omega) _) (by show w.heap.size + 1 < w.heap.size + 1 + 1; omega) _) (by show w.heap.size + 1 < w.heap.size + 1 + 1; omega) _⟩
      case rest =>
        obtain ⟨rfl, HSL, HOW⟩ := hcut
        obtain ⟨gk, rfl, hgk⟩ : ∃ gk : Nat, gx = (gk : Int) ∧ gk < N.pcs.length := by
          have h := HGS.out
          simp only [spotP, inR, Bool.and_eq_true, decide_eq_true_eq] at h
          exact ⟨gx.toNat, by omega, by omega⟩
        have hgz := spot_way HGS.out
        have hlen := lenAt_pos HNET.out (gk : Int) (by omega) (by omega)
        have hgy : 0 ≤ gy ∧ gy ≤ lenAt N gk := by
          have h := HGS.out
          simp only [spotP, inR, Bool.and_eq_true, decide_eq_true_eq] at h
          omega
        rw [lenAt_nat N gk hgk] at hlen hgy
        have HGZ := hide hgz
        have n0 := HSL.out.n0
        have n1 := HSL.out.n1
        have n2 := HSL.out.n2
        have c0 := HSL.out.c0
        have c1 := HSL.out.c1
        have c2 := HSL.out.c2
        clear hgz x0 x1 HA HOA
        go_wp2_with fail
        refine (layAhead_any a a' N cap cap' m gk gy gz _ hgk HGZ.out (by omega) (by omega) (HP.out.later HSL.out.below)).mono ?_
        rintro e w6 ⟨rfl, hb6⟩
        have HS6 := hide (HSL.out.later hb6)
        have HOW6 := hide (owns_later' HOW.out hb6)
        have c0 := HS6.out.c0
        have c1 := HS6.out.c1
        have c2 := HS6.out.c2
        have hcl := cell_lt c0
        have HLT := hide (fun g h => (HOW6.out.lt g h).1)
        have hml : ps.length + 1 ≤ maxLen := by unfold maxLen; omega
        have HRV := hide (show roomP N gk gy gz = if gz = 1 then N.pcs[gk].len - gy else gy by unfold roomP; rw [lenAt_nat N gk hgk])
        have hrb : 0 ≤ roomP N gk gy gz ∧ roomP N gk gy gz ≤ 10000000 := by
          rw [HRV.out]
          split <;> omega
        clear hb6 n0 n1 n2 HSL HOW HT0 HAT0 HAT1 HO
        generalize roomP N gk gy gz = rm at *
        have HMIN := hide (show (if rm < lf then rm else lf) = st by
          rw [HGO.out]
          split <;> split <;> omega)
        go_upto_region 8 with fail
        rw [HMIN.out]
        have hsb2 : gz = 1 → gy + st ≤ N.pcs[gk].len := fun e => by
          have h := HRV.out
          rw [if_pos e] at h
          omega
        have hsb3 : gz = -1 → st ≤ gy := fun e => by
          have h := HRV.out
          rw [if_neg (by omega)] at h
          omega
        clear HGO HRV HMIN
        by_cases hst : st = 0
        · subst hst
          rcases HGZ.out with rfl | rfl
          · clear hsb2 hsb3
            go_wp2_with (first
              | (at_builtin; (refine wpList_append_lies _ rfl _ _ _ rfl (w.heap.size + 1 + 1) 87 i0 _ 3 24 Tryz.underlying43 HI.out HZ0.out HZ1.out HZ2.out rfl (by omega) u10 ps.length (partCells ps) rfl (HOW6.out.alloc _) ⟨w6.heap.size, 0, none⟩ 1 1 [.int .i64 gk, .int .i64 _, .int .i64 _] rfl rfl (news_at rfl) (by simp [Value.oneCell']) (by omega) hml (by omega) (by simp; omega) _ rfl ?_); intro g2 c2' w7 hown2 hgrow2 _ hlt2))
            have HL7 := hide ((HS6.out.later ((Below.refl _ _).alloc (Nat.le_refl _) _)).grown hgrow2 HLT.out)
            have e2 : partCells (ps ++ [partP gk gy (gy + 0 * 1)]) = partCells ps ++ [.int .i64 gk, .int .i64 (gy), .int .i64 (gy)] := by
              have : partP gk gy (gy + 0 * 1) = ((gk : Int), gy, gy) := by
                have he : gy + 0 * 1 = gy := by omega
                rw [he]
                unfold partP
                split <;> first | rfl | (exfalso; omega)
              rw [partCells_app', this]
              rfl
            refine ⟨⟨t + 1, gk, gy, 1, by omega, by go_num, (fun e => by omega), (by rw [HSUC.out]; first | done | simp), ?_, HL7.out⟩, by simp [intOf]; omega⟩
            show World.ownsRow _ _ _ _ _ _ _
            rw [HSUC.out]
            dsimp only
            rw [e2, List.length_append]
            exact hown2
          · clear hsb2 hsb3
            go_wp2_with (first
              | (at_builtin; (refine wpList_append_lies _ rfl _ _ _ rfl (w.heap.size + 1 + 1) 87 i0 _ 3 24 Tryz.underlying43 HI.out HZ0.out HZ1.out HZ2.out rfl (by omega) u10 ps.length (partCells ps) rfl (HOW6.out.alloc _) ⟨w6.heap.size, 0, none⟩ 1 1 [.int .i64 gk, .int .i64 _, .int .i64 _] rfl rfl (news_at rfl) (by simp [Value.oneCell']) (by omega) hml (by omega) (by simp; omega) _ rfl ?_); intro g2 c2' w7 hown2 hgrow2 _ hlt2))
            have HL7 := hide ((HS6.out.later ((Below.refl _ _).alloc (Nat.le_refl _) _)).grown hgrow2 HLT.out)
            have e2 : partCells (ps ++ [partP gk gy (gy + 0 * -1)]) = partCells ps ++ [.int .i64 gk, .int .i64 (gy), .int .i64 (gy)] := by
              have : partP gk gy (gy + 0 * -1) = ((gk : Int), gy, gy) := by
                have he : gy + 0 * -1 = gy := by omega
                rw [he]
                unfold partP
                split <;> first | rfl | (exfalso; omega)
              rw [partCells_app', this]
              rfl
            refine ⟨⟨t + 1, gk, gy, -1, by omega, by go_num, (fun e => by omega), (by rw [HSUC.out]; first | done | simp), ?_, HL7.out⟩, by simp [intOf]; omega⟩
            show World.ownsRow _ _ _ _ _ _ _
            rw [HSUC.out]
            dsimp only
            rw [e2, List.length_append]
            exact hown2
        · have hsp : 0 < st := by omega
          rcases HGZ.out with rfl | rfl
          · have hsb2 := hsb2 rfl
            clear hsb3 hst
            have m1 : ¬ gy + st < gy := by omega
            have m2 : gy < gy + st := by omega
            go_wp2_with (first
              | (at_builtin; (refine wpList_append_lies _ rfl _ _ _ rfl (w.heap.size + 1 + 1) 87 i0 _ 3 24 Tryz.underlying43 HI.out HZ0.out HZ1.out HZ2.out rfl (by omega) u10 ps.length (partCells ps) rfl (HOW6.out.alloc _) ⟨w6.heap.size, 0, none⟩ 1 1 [.int .i64 gk, .int .i64 _, .int .i64 _] rfl rfl (news_at rfl) (by simp [Value.oneCell']) (by omega) hml (by omega) (by simp; omega) _ rfl ?_); intro g2 c2' w7 hown2 hgrow2 _ hlt2))
            have HL7 := hide ((HS6.out.later ((Below.refl _ _).alloc (Nat.le_refl _) _)).grown hgrow2 HLT.out)
            have e2 : partCells (ps ++ [partP gk gy (gy + st * 1)]) = partCells ps ++ [.int .i64 gk, .int .i64 (gy), .int .i64 (gy + st)] := by
              have : partP gk gy (gy + st * 1) = ((gk : Int), gy, gy + st) := by
                have he : gy + st * 1 = gy + st := by omega
                rw [he]
                unfold partP
                split <;> first | rfl | (exfalso; omega)
              rw [partCells_app', this]
              rfl
            refine ⟨⟨t + 1, gk, gy, 1, by omega, by go_num, (fun e => by omega), (by rw [HSUC.out]; first | done | simp), ?_, HL7.out⟩, by simp [intOf]; omega⟩
            show World.ownsRow _ _ _ _ _ _ _
            rw [HSUC.out]
            dsimp only
            rw [e2, List.length_append]
            exact hown2
          · have hsb3 := hsb3 rfl
            clear hsb2 hst
            have m1 : gy + -st < gy := by omega
            have m2 : ¬ gy < gy + -st := by omega
            go_wp2_with (first
              | (at_builtin; (refine wpList_append_lies _ rfl _ _ _ rfl (w.heap.size + 1 + 1) 87 i0 _ 3 24 Tryz.underlying43 HI.out HZ0.out HZ1.out HZ2.out rfl (by omega) u10 ps.length (partCells ps) rfl (HOW6.out.alloc _) ⟨w6.heap.size, 0, none⟩ 1 1 [.int .i64 gk, .int .i64 _, .int .i64 _] rfl rfl (news_at rfl) (by simp [Value.oneCell']) (by omega) hml (by omega) (by simp; omega) _ rfl ?_); intro g2 c2' w7 hown2 hgrow2 _ hlt2))
            have HL7 := hide ((HS6.out.later ((Below.refl _ _).alloc (Nat.le_refl _) _)).grown hgrow2 HLT.out)
            have e2 : partCells (ps ++ [partP gk gy (gy + st * -1)]) = partCells ps ++ [.int .i64 gk, .int .i64 (gy + -st), .int .i64 (gy)] := by
              have : partP gk gy (gy + st * -1) = ((gk : Int), gy + -st, gy) := by
                have he : gy + st * -1 = gy + -st := by omega
                rw [he]
                unfold partP
                split <;> first | rfl | (exfalso; omega)
              rw [partCells_app', this]
              rfl
            refine ⟨⟨t + 1, gk, gy, -1, by omega, by go_num, (fun e => by omega), (by rw [HSUC.out]; first | done | simp), ?_, HL7.out⟩, by simp [intOf]; omega⟩
            show World.ownsRow _ _ _ _ _ _ _
            rw [HSUC.out]
            dsimp only
            rw [e2, List.length_append]
            exact hown2
    · have HEND := hide (show t = ss.length by omega)
      go_wp2_with fail
      go_ret2
      rw [← HEND.out]
      exact ⟨_, rfl, owns_low HOW.out (by omega), HSL.out.below⟩
end Go.Proofs.YtldafgbhjpfboaaGreat
