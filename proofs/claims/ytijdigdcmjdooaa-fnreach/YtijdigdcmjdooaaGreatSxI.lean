/- impl.Stretch and what it calls. Own work. -/
import Derived.Test.YtijdigdcmjdooaaGreatMxAU
import Derived.Test.YtijdigdcmjdooaaGreatMxAQ
import Derived.Test.YtijdigdcmjdooaaGreatMxAX
import Derived.Test.YtijdigdcmjdooaaGreatMxAY
import Derived.Test.YtijdigdcmjdooaaGreatMxAL
import Derived.Test.YtijdigdcmjdooaaGreatMxAK
import Derived.Test.YtijdigdcmjdooaaGreatDrS
import Derived.Deep.AppendLies
import Derived.Lib.QuietBelow
import Derived.BigQuiet
import Derived.Deep.CutRange
namespace Go.Proofs.YtijdigdcmjdooaaGreat
open Go.RowKit Go.Sort
set_option maxHeartbeats 8000000
set_option maxRecDepth 20000

theorem spotStep_any (q at' wy : Int) (w : World) : Calls Tryz.prog 67 #[.agg #[.int .i64 q, .int .i64 at', .int .i64 wy]] w fun e w' => e = .returned (.agg #[.int .i64 q, .int .i64 wy]) ∧ Below w.heap.size w w' := by
  go_enter Tryz.func67, Tryz.ntmps67
  go_wp2_with fail
  exact bodyPost_ret (v := .agg #[.int .i64 q, .int .i64 wy]) (by simp [results, Tryz.results67, go_sem]) rfl ⟨rfl, ((Below.refl _ _).alloc (Nat.le_refl _) _).alloc (by simp) _⟩

theorem room_qr (q a wy len : Int) (w : World) (hwy : wy = 1 ∨ wy = -1) (hl : 0 ≤ len ∧ len ≤ 10000000) (ha : 0 ≤ a ∧ a ≤ 10000000) {r : Int} (hr : (if wy = 1 then len - a else a) = r) (d : Nat) (os : Array Obj) :
    Calls Tryz.prog 87 #[.agg #[.int .i64 q, .int .i64 a, .int .i64 wy], .int .i64 len] (grow (redrawn w d) os) fun e w'' => e = .returned (.int .i64 r) ∧ ∃ p : Regrown, w'' = grow (redrawn w p.d) p.os := by
  subst hr
  exact Calls.regrown_of (room_any q a wy len _ hwy hl ha)

theorem layAhead_any (a a' : Option Addr) (N : Nt) (cap cap' m k : Nat) (at' wy : Int) (w : World) (hk : k < N.pcs.length) (hwy : wy = 1 ∨ wy = -1) (hl : 0 ≤ N.pcs[k].len ∧ N.pcs[k].len ≤ 10000000) (ha : 0 ≤ at' ∧ at' ≤ 10000000) (hp : PcsAt w a N.pcs) :
    Calls Tryz.prog 58 #[.agg #[.slice a N.pcs.length cap, .slice a' N.jts.length cap', .map (some m)], .agg #[.int .i64 k, .int .i64 at', .int .i64 wy]] w fun e w' => e = .returned (.int .i64 (roomP N k at' wy)) ∧ Below w.heap.size w w' := by
  have hW : Below w.heap.size w ((w.alloc (.cells #[.slice a N.pcs.length cap, .slice a' N.jts.length cap', .map (some m)] 70)).alloc (.cells #[.int .i64 k, .int .i64 at', .int .i64 wy] 29)) := ((Below.refl _ _).alloc (Nat.le_refl _) _).alloc (by simp) _
  have HW := hide hW
  obtain ⟨b, off, rfl, _, c1, _⟩ := hp.later hW k hk
  have t0 : ((w.alloc (.cells #[.slice (some ⟨b, off, none⟩) N.pcs.length cap, .slice a' N.jts.length cap', .map (some m)] 70)).alloc (.cells #[.int .i64 k, .int .i64 at', .int .i64 wy] 29)).cell? ⟨w.heap.size, 0, none⟩ = some (.slice (some ⟨b, off, none⟩) N.pcs.length cap) := by simp [go_sem]
  have e0 : ((w.alloc (.cells #[.slice (some ⟨b, off, none⟩) N.pcs.length cap, .slice a' N.jts.length cap', .map (some m)] 70)).alloc (.cells #[.int .i64 k, .int .i64 at', .int .i64 wy] 29)).cell? ⟨w.heap.size + 1, 0, none⟩ = some (.int .i64 k) := by simp [go_sem]
  have e1 : ((w.alloc (.cells #[.slice (some ⟨b, off, none⟩) N.pcs.length cap, .slice a' N.jts.length cap', .map (some m)] 70)).alloc (.cells #[.int .i64 k, .int .i64 at', .int .i64 wy] 29)).cell? ⟨w.heap.size + 1, 1, none⟩ = some (.int .i64 at') := by simp [go_sem]
  have e2 : ((w.alloc (.cells #[.slice (some ⟨b, off, none⟩) N.pcs.length cap, .slice a' N.jts.length cap', .map (some m)] 70)).alloc (.cells #[.int .i64 k, .int .i64 at', .int .i64 wy] 29)).cell? ⟨w.heap.size + 1, 2, none⟩ = some (.int .i64 wy) := by simp [go_sem]
  have k0 := cell_regrown t0
  have k1 := cell_regrown e0
  have k2 := cell_regrown e1
  have k3 := cell_regrown e2
  have k4 := cell_regrown c1
  have hki : (k : Int) < (N.pcs.length : Int) := by omega
  have HRV := hide (show roomP N k at' wy = if wy = 1 then N.pcs[k].len - at' else at' by unfold roomP; rw [lenAt_nat N k hk])
  have HWY := hide hwy
  clear hW t0 e0 e1 e2 c1 hwy
  go_enter Tryz.func58, Tryz.ntmps58
  go_upto_region 1 with fail
  generalize ((w.alloc (.cells #[.slice (some ⟨b, off, none⟩) N.pcs.length cap, .slice a' N.jts.length cap', .map (some m)] 70)).alloc (.cells #[.int .i64 k, .int .i64 at', .int .i64 wy] 29)) = w1 at *
  refine wp_region_quiet_below (by kernel_rfl) (by kernel_rfl) ?_
  repeat (go_big_quiet_step (first | exact room_qr _ _ _ _ _ HWY.out hl ha HRV.out.symm _ _))
  refine wpQuiet_nil ?_
  intro _ hw'
  obtain ⟨⟨dq, osq⟩, hw''⟩ := hw'
  subst hw''
  go_wp2_with fail
  go_ret
  exact ⟨rfl, HW.out.trans ((below_regrown w1 dq osq).mono HW.out.size)⟩

abbrev LBx (w wx : World) (v0 : Value) (s1 s2 : Int) : Prop := (wx.cell? ⟨w.heap.size, 0, none⟩ = some v0 ∧ wx.cell? ⟨w.heap.size + 1, 0, none⟩ = some (.int .i64 s1) ∧ wx.cell? ⟨w.heap.size + 1, 1, none⟩ = some (.int .i64 s2)) ∧ Hid (Below w.heap.size w wx)
theorem keepLBx {w w2 w3 : World} {v0 : Value} {s1 s2 : Int} (hb : Below w2.heap.size w2 w3) (h : LBx w w2 v0 s1 s2) : LBx w w3 v0 s1 s2 :=
  ⟨⟨cell_later' hb h.1.1, cell_later' hb h.1.2.1, cell_later' hb h.1.2.2⟩, h.2.out.trans (hb.mono h.2.out.size)⟩
theorem putLBx {w w2 : World} {v0 : Value} {s1 s2 : Int} (h : LBx w w2 v0 s1 s2) (x y z : Value) : LBx w (((w2.setCell ⟨w.heap.size + 1 + 1, 0, none⟩ x).setCell ⟨w.heap.size + 1 + 1, 1, none⟩ y).setCell ⟨w.heap.size + 1 + 1, 2, none⟩ z) v0 s1 s2 := by
  have e : ∀ (W : World) (o : Nat) (v : Value) (c i : Nat) (u : Value), c < w.heap.size + 1 + 1 → W.cell? ⟨c, i, none⟩ = some u → (W.setCell ⟨w.heap.size + 1 + 1, o, none⟩ v).cell? ⟨c, i, none⟩ = some u := fun W o v c i u hc hu => by
    rw [World.cell?_setCell_far W ⟨w.heap.size + 1 + 1, o, none⟩ ⟨c, i, none⟩ v (by show w.heap.size + 1 + 1 ≠ c; omega)]; exact hu
  exact ⟨⟨e _ _ _ _ _ _ (by omega) (e _ _ _ _ _ _ (by omega) (e _ _ _ _ _ _ (by omega) h.1.1)), e _ _ _ _ _ _ (by omega) (e _ _ _ _ _ _ (by omega) (e _ _ _ _ _ _ (by omega) h.1.2.1)), e _ _ _ _ _ _ (by omega) (e _ _ _ _ _ _ (by omega) (e _ _ _ _ _ _ (by omega) h.1.2.2))⟩,
    ((h.2.out.setCell (by show w.heap.size ≤ w.heap.size + 1 + 1; omega) _).setCell (by show w.heap.size ≤ w.heap.size + 1 + 1; omega) _).setCell (by show w.heap.size ≤ w.heap.size + 1 + 1; omega) _⟩

theorem layBegin_any (a a' : Option Addr) (N : Nt) (cap cap' m : Nat) (s1 s2 gx gy gz : Int) (w : World) (hs : stepOk N.pcs.length (s1, s2) = true) (hg : enterP N (headP s1 (-s2)) = (gx, gy, gz)) (hp : PcsAt w a N.pcs) :
    Calls Tryz.prog 69 #[.agg #[.slice a N.pcs.length cap, .slice a' N.jts.length cap', .map (some m)], .agg #[.int .i64 s1, .int .i64 s2]] w fun e w' => e = .returned (.agg #[.int .i64 gx, .int .i64 gy, .int .i64 gz]) ∧ Below w.heap.size w w' := by
  have HP := hide hp
  have hwy : s2 = 1 ∨ s2 = -1 := by simp [stepOk] at hs; omega
  have hE := (stepOk_ends hs).2
  obtain ⟨fx, fy, hF⟩ : ∃ fx fy, headP s1 (-s2) = (fx, fy) := ⟨_, _, rfl⟩
  dsimp only at hE
  rw [hF] at hE hg
  obtain ⟨kf, hkf1, hkf2, hfy⟩ : ∃ kf : Nat, fx = (kf : Int) ∧ kf < N.pcs.length ∧ (fy = 0 ∨ fy = 1) := by
    simp only [endOk, inR, Bool.and_eq_true, decide_eq_true_eq] at hE
    exact ⟨fx.toNat, by omega, by omega, by omega⟩
  subst hkf1
  have HF := hide hF
  have HG := hide hg
  clear hs hE hp hF hg
  have HL1 : Hid (LBx w (((w.alloc (.cells #[.slice a N.pcs.length cap, .slice a' N.jts.length cap', .map (some m)] 70)).alloc (.cells #[.int .i64 s1, .int .i64 s2] 132)).alloc (.cells #[.int .i64 0, .int .i64 0, .int .i64 0] 29)) (.slice a N.pcs.length cap) s1 s2) :=
    ⟨⟨by simp [go_sem], by simp [go_sem], by simp [go_sem]⟩, (((Below.refl _ _).alloc (Nat.le_refl _) _).alloc (by simp) _).alloc (by simp; omega) _⟩
  have y := fun i v h => new_cell ((w.alloc (.cells #[.slice a N.pcs.length cap, .slice a' N.jts.length cap', .map (some m)] 70)).alloc (.cells #[.int .i64 s1, .int .i64 s2] 132)) #[.int .i64 0, .int .i64 0, .int .i64 0] 29 i v h
  have y0 := y 0 _ rfl
  have y1 := y 1 _ rfl
  have y2 := y 2 _ rfl
  have f : ∀ i, (((w.alloc (.cells #[.slice a N.pcs.length cap, .slice a' N.jts.length cap', .map (some m)] 70)).alloc (.cells #[.int .i64 s1, .int .i64 s2] 132)).alloc (.cells #[.int .i64 0, .int .i64 0, .int .i64 0] 29)).frozen? ⟨w.heap.size + 1 + 1, i, none⟩ = false := fun i => by simp [go_sem]
  rw [World.size_alloc, World.size_alloc] at y0 y1 y2
  have HY := hide (And.intro y0 (And.intro y1 (And.intro y2 f)))
  clear y y0 y1 y2 f
  go_enter Tryz.func69, Tryz.ntmps69
  go_upto_region 1 with fail
  generalize (((w.alloc (.cells #[.slice a N.pcs.length cap, .slice a' N.jts.length cap', .map (some m)] 70)).alloc (.cells #[.int .i64 s1, .int .i64 s2] 132)).alloc (.cells #[.int .i64 0, .int .i64 0, .int .i64 0] 29)) = w1 at *
  have hlt1 := cell_lt HY.out.1
  have hd1 : Below w1.heap.size w1 w1.drew := (Below.refl _ _).drew
  go_region_held3 (fun wx => LBx w wx (.slice a N.pcs.length cap) s1 s2)
    (first
      | (exact keepLBx hd1 HL1.out)
      | (exact HL2.out)
      | (exact HL3.out)
      | (exact putLBx HL3.out _ _ _))
    (first
      | (go_at_call 102; refine (stepFrom_at hwy HF.out _).mono ?_; rintro e w2 ⟨rfl, hb2⟩; have HL2 := hide (keepLBx hb2 (keepLBx hd1 HL1.out)))
      | (go_at_call 90; refine (entry_any a N cap kf fy _ hkf2 hfy (HP.out.later (heldB HL2.out))).mono ?_; rintro e w3 ⟨rfl, hb3⟩; rw [HG.out]; have HL3 := hide (keepLBx hb3 HL2.out); have y0 := cell_later' ((hd1.trans hb2).trans (hb3.mono (hd1.trans hb2).size)) HY.out.1; have y1 := cell_later' ((hd1.trans hb2).trans (hb3.mono (hd1.trans hb2).size)) HY.out.2.1; have y2 := cell_later' ((hd1.trans hb2).trans (hb3.mono (hd1.trans hb2).size)) HY.out.2.2.1; have f0 := frozen_later ((hd1.trans hb2).trans (hb3.mono (hd1.trans hb2).size)) HY.out.1 (HY.out.2.2.2 0); have f1 := frozen_later ((hd1.trans hb2).trans (hb3.mono (hd1.trans hb2).size)) HY.out.2.1 (HY.out.2.2.2 1); have f2 := frozen_later ((hd1.trans hb2).trans (hb3.mono (hd1.trans hb2).size)) HY.out.2.2.1 (HY.out.2.2.2 2); dsimp only))
  have HB2 := hide (heldB HL3.out)
  clear HL3
  go_wp2_with fail
  refine bodyPost_ret (v := .agg #[.int .i64 gx, .int .i64 gy, .int .i64 gz]) (by simp [results, Tryz.results69, go_sem, y0, y1, y2]) rfl ⟨rfl, ?_⟩
  exact ((HB2.out.setCell (by show w.heap.size ≤ w.heap.size + 1 + 1; omega) _).setCell (by show w.heap.size ≤ w.heap.size + 1 + 1; omega) _).setCell (by show w.heap.size ≤ w.heap.size + 1 + 1; omega) _
/-- Between two rounds of spread. -/
structure SpL (w wr : World) (v0 v1 v2 : Value) (x y z : Int) : Prop where
  n0 : wr.cell? ⟨w.heap.size, 0, none⟩ = some v0
  n1 : wr.cell? ⟨w.heap.size, 1, none⟩ = some v1
  n2 : wr.cell? ⟨w.heap.size, 2, none⟩ = some v2
  c0 : wr.cell? ⟨w.heap.size + 1, 0, none⟩ = some (.int .i64 x)
  c1 : wr.cell? ⟨w.heap.size + 1, 1, none⟩ = some (.int .i64 y)
  c2 : wr.cell? ⟨w.heap.size + 1, 2, none⟩ = some (.int .i64 z)
  fz : ∀ i, wr.frozen? ⟨w.heap.size + 1, i, none⟩ = false
  below : Below w.heap.size w wr
theorem SpL.later {w w1 w2 : World} {v0 v1 v2 : Value} {x y z : Int} (h : SpL w w1 v0 v1 v2 x y z) (hb : Below w1.heap.size w1 w2) : SpL w w2 v0 v1 v2 x y z :=
  ⟨cell_later' hb h.n0, cell_later' hb h.n1, cell_later' hb h.n2, cell_later' hb h.c0, cell_later' hb h.c1, cell_later' hb h.c2, fun i => by rw [hb.frozen (p := ⟨w.heap.size + 1, i, none⟩) (cell_lt h.c0)]; exact h.fz i, h.below.trans (hb.mono h.below.size)⟩
theorem SpL.put {w w1 : World} {v0 v1 v2 : Value} {x y z : Int} (h : SpL w w1 v0 v1 v2 x y z) (x' y' z' : Int) : SpL w (((w1.setCell ⟨w.heap.size + 1, 0, none⟩ (.int .i64 x')).setCell ⟨w.heap.size + 1, 1, none⟩ (.int .i64 y')).setCell ⟨w.heap.size + 1, 2, none⟩ (.int .i64 z')) v0 v1 v2 x' y' z' := by
  obtain ⟨n0, n1, n2, c0, c1, c2, fz, hb⟩ := h
  have far : ∀ (W : World) (o : Nat) (v : Value) (i : Nat), (W.setCell ⟨w.heap.size + 1, o, none⟩ v).cell? ⟨w.heap.size, i, none⟩ = W.cell? ⟨w.heap.size, i, none⟩ := fun W o v i => World.cell?_setCell_far W ⟨w.heap.size + 1, o, none⟩ ⟨w.heap.size, i, none⟩ v (by show w.heap.size + 1 ≠ w.heap.size; omega)
  refine ⟨by rw [far, far, far]; exact n0, by rw [far, far, far]; exact n1, by rw [far, far, far]; exact n2, by simp [go_sem, c0], by simp [go_sem, c1], by simp [go_sem, c2], fun i => by rw [World.frozen?_setCell, World.frozen?_setCell, World.frozen?_setCell]; exact fz i, ?_⟩
  exact ((hb.setCell (by show w.heap.size ≤ w.heap.size + 1; omega) _).setCell (by show w.heap.size ≤ w.heap.size + 1; omega) _).setCell (by show w.heap.size ≤ w.heap.size + 1; omega) _
theorem SpL.grown {w w1 w2 : World} {v0 v1 v2 : Value} {x y z : Int} {row : Option Nat} (h : SpL w w1 v0 v1 v2 x y z) (hg : w1.grownBy w2 row) (hrow : ∀ g, row = some g → w.heap.size + 1 + 1 ≤ g) : SpL w w2 v0 v1 v2 x y z := by
  have hA := cell_lt h.c0
  have hne : ∀ b, b ≤ w.heap.size + 1 → some b ≠ row := fun b hb e => by have := hrow b e.symm; omega
  have e : ∀ b i, b ≤ w.heap.size + 1 → w2.cell? ⟨b, i, none⟩ = w1.cell? ⟨b, i, none⟩ := fun b i hb => hg.cell_far ⟨b, i, none⟩ (by show b < w1.heap.size; omega) (hne b hb)
  exact ⟨(e _ _ (by omega)).trans h.n0, (e _ _ (by omega)).trans h.n1, (e _ _ (by omega)).trans h.n2, (e _ _ (by omega)).trans h.c0, (e _ _ (by omega)).trans h.c1, (e _ _ (by omega)).trans h.c2, fun i => by rw [hg.frozen_far ⟨w.heap.size + 1, i, none⟩ hA (hne (w.heap.size + 1) (by omega))]; exact h.fz i, h.below.grown hg h.below.size (fun k e => by have := hrow k e; omega)⟩
theorem partCells_app' (ps : List (Int × Int × Int)) (p : Int × Int × Int) : partCells (ps ++ [p]) = partCells ps ++ partCells [p] := by simp [partCells]

end Go.Proofs.YtijdigdcmjdooaaGreat
