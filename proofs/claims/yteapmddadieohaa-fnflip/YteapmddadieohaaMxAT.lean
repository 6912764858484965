/- The cursor in memory. Own work. -/
import Derived.Test.YteapmddadieohaaDrS
import Derived.Test.YteapmddadieohaaMxAS
import Derived.Test.YteapmddadieohaaMxAN
namespace Go.Proofs.Yteapmddadieohaa
open Go.RowKit
set_option maxHeartbeats 2000000

/-- What lay there ahead of the drive (w), and what the cursor leans on (W): it lies in block B, its map of seats is m. -/
structure Env (w W : World) (B m n : Nat) (G : Int × Int → Option (Int × Int × Int)) : Prop where
  below : Below w.heap.size w W
  wB : w.heap.size ≤ B
  Bb : B < W.heap.size
  seat : SE W m n G
  mB : m ≠ B

/-- The cursor in block B, the list u of parts; of what was there in W nothing else has turned. -/
structure CS (W : World) (B m : Nat) (sp sj sl : Value) (w' : World) (q a wy : Int) (ov : Nat) (u : Value) (ps : List (Int × Int × Int)) : Prop where
  c0 : w'.cell? ⟨B, 0, none⟩ = some (.int .i64 q)
  c1 : w'.cell? ⟨B, 1, none⟩ = some (.int .i64 a)
  c2 : w'.cell? ⟨B, 2, none⟩ = some (.int .i64 wy)
  c3 : w'.cell? ⟨B, 3, none⟩ = some sp
  c4 : w'.cell? ⟨B, 4, none⟩ = some sj
  c5 : w'.cell? ⟨B, 5, none⟩ = some sl
  c6 : w'.cell? ⟨B, 6, none⟩ = some (.map (some m))
  c7 : w'.cell? ⟨B, 7, none⟩ = some (.int .i64 ov)
  c8 : w'.cell? ⟨B, 8, none⟩ = some u
  fz : ∀ i, w'.frozen? ⟨B, i, none⟩ = false
  row : w'.ownsRow W.heap.size 79 3 u ps.length (partCells ps)
  os : w'.os = W.os
  tape : w'.tape = W.tape
  output : w'.output = W.output
  bs : W.heap.size ≤ w'.heap.size
  fr : ∀ k, k < W.heap.size → k ≠ B → w'.heap[k]? = W.heap[k]?
  Bb : B < W.heap.size

section
variable {w W : World} {B m n : Nat} {G : Int × Int → Option (Int × Int × Int)} {sp sj sl : Value} {w' : World} {q a wy : Int} {ov : Nat} {u : Value} {ps : List (Int × Int × Int)}

theorem CS.below (h : CS W B m sp sj sl w' q a wy ov u ps) (E : Env w W B m n G) : Below w.heap.size w w' :=
  ⟨h.os.trans E.below.os, h.tape.trans E.below.tape, h.output.trans E.below.output, Nat.le_trans E.below.size h.bs, fun k hk => by
    have := E.wB
    have := E.below.size
    exact (h.fr k (by omega) (by omega)).trans (E.below.block k hk)⟩
theorem CS.seat (h : CS W B m sp sj sl w' q a wy ov u ps) (E : Env w W B m n G) : SE w' m n G := E.seat.of_block (h.fr m E.seat.lt E.mB)

theorem CS.later (h : CS W B m sp sj sl w' q a wy ov u ps) {w2 : World} (hb : Below w'.heap.size w' w2) : CS W B m sp sj sl w2 q a wy ov u ps where
  c0 := cell_later' hb h.c0
  c1 := cell_later' hb h.c1
  c2 := cell_later' hb h.c2
  c3 := cell_later' hb h.c3
  c4 := cell_later' hb h.c4
  c5 := cell_later' hb h.c5
  c6 := cell_later' hb h.c6
  c7 := cell_later' hb h.c7
  c8 := cell_later' hb h.c8
  fz := fun i => by rw [hb.frozen (p := ⟨B, i, none⟩) (cell_lt h.c0)]; exact h.fz i
  row := owns_later' h.row hb
  os := hb.os.trans h.os
  tape := hb.tape.trans h.tape
  output := hb.output.trans h.output
  bs := Nat.le_trans h.bs hb.size
  fr := fun k hk hne => (hb.block k (Nat.lt_of_lt_of_le hk h.bs)).trans (h.fr k hk hne)
  Bb := h.Bb

theorem CS.setAt (h : CS W B m sp sj sl w' q a wy ov u ps) (a' : Int) : CS W B m sp sj sl (w'.setCell ⟨B, 1, none⟩ (.int .i64 a')) q a' wy ov u ps where
  c0 := by simp [go_sem, h.c0]
  c1 := by simp [go_sem, h.c1]
  c2 := by simp [go_sem, h.c2]
  c3 := by simp [go_sem, h.c3]
  c4 := by simp [go_sem, h.c4]
  c5 := by simp [go_sem, h.c5]
  c6 := by simp [go_sem, h.c6]
  c7 := by simp [go_sem, h.c7]
  c8 := by simp [go_sem, h.c8]
  fz := fun i => by rw [World.frozen?_setCell]; exact h.fz i
  row := ownsRow_setCell_below h.row h.Bb _
  os := h.os
  tape := h.tape
  output := h.output
  bs := by simpa using h.bs
  fr := fun k hk hne => (Below.heap_setCell _ _ _ _ hne).trans (h.fr k hk hne)
  Bb := h.Bb

theorem CS.setOv (h : CS W B m sp sj sl w' q a wy ov u ps) (ov' : Nat) : CS W B m sp sj sl (w'.setCell ⟨B, 7, none⟩ (.int .i64 ov')) q a wy ov' u ps where
  c0 := by simp [go_sem, h.c0]
  c1 := by simp [go_sem, h.c1]
  c2 := by simp [go_sem, h.c2]
  c3 := by simp [go_sem, h.c3]
  c4 := by simp [go_sem, h.c4]
  c5 := by simp [go_sem, h.c5]
  c6 := by simp [go_sem, h.c6]
  c7 := by simp [go_sem, h.c7]
  c8 := by simp [go_sem, h.c8]
  fz := fun i => by rw [World.frozen?_setCell]; exact h.fz i
  row := ownsRow_setCell_below h.row h.Bb _
  os := h.os
  tape := h.tape
  output := h.output
  bs := by simpa using h.bs
  fr := fun k hk hne => (Below.heap_setCell _ _ _ _ hne).trans (h.fr k hk hne)
  Bb := h.Bb

theorem CS.setSpot (h : CS W B m sp sj sl w' q a wy ov u ps) (q' a' wy' : Int) : CS W B m sp sj sl (((w'.setCell ⟨B, 0, none⟩ (.int .i64 q')).setCell ⟨B, 1, none⟩ (.int .i64 a')).setCell ⟨B, 2, none⟩ (.int .i64 wy')) q' a' wy' ov u ps where
  c0 := by simp [go_sem, h.c0]
  c1 := by simp [go_sem, h.c1]
  c2 := by simp [go_sem, h.c2]
  c3 := by simp [go_sem, h.c3]
  c4 := by simp [go_sem, h.c4]
  c5 := by simp [go_sem, h.c5]
  c6 := by simp [go_sem, h.c6]
  c7 := by simp [go_sem, h.c7]
  c8 := by simp [go_sem, h.c8]
  fz := fun i => by rw [World.frozen?_setCell, World.frozen?_setCell, World.frozen?_setCell]; exact h.fz i
  row := ownsRow_setCell_below (ownsRow_setCell_below (ownsRow_setCell_below h.row h.Bb _) h.Bb _) h.Bb _
  os := h.os
  tape := h.tape
  output := h.output
  bs := by simpa using h.bs
  fr := fun k hk hne => (Below.heap_setCell _ _ _ _ hne).trans ((Below.heap_setCell _ _ _ _ hne).trans ((Below.heap_setCell _ _ _ _ hne).trans (h.fr k hk hne)))
  Bb := h.Bb

/-- The list of parts has grown. -/
theorem CS.grown (h : CS W B m sp sj sl w' q a wy ov u ps) {w2 : World} {row : Option Nat} (hg : w'.grownBy w2 row) (hrow : ∀ g, row = some g → W.heap.size ≤ g) {u2 : Value} {ps2 : List (Int × Int × Int)} (hr : w2.ownsRow W.heap.size 79 3 u2 ps2.length (partCells ps2)) :
    CS W B m sp sj sl (w2.setCell ⟨B, 8, none⟩ u2) q a wy ov u2 ps2 := by
  have hB := h.Bb
  have hne : ∀ k, k < W.heap.size → some k ≠ row := fun k hk e => by have := hrow k e.symm; omega
  have hl := cell_lt h.c0
  have e : ∀ i v, w'.cell? ⟨B, i, none⟩ = some v → w2.cell? ⟨B, i, none⟩ = some v := fun i v hv => (hg.cell_far ⟨B, i, none⟩ hl (hne B hB)).trans hv
  have e0 := e _ _ h.c0
  have e1 := e _ _ h.c1
  have e2 := e _ _ h.c2
  have e3 := e _ _ h.c3
  have e4 := e _ _ h.c4
  have e5 := e _ _ h.c5
  have e6 := e _ _ h.c6
  have e7 := e _ _ h.c7
  have e8 := e _ _ h.c8
  exact {
    c0 := by simp [go_sem, e0]
    c1 := by simp [go_sem, e1]
    c2 := by simp [go_sem, e2]
    c3 := by simp [go_sem, e3]
    c4 := by simp [go_sem, e4]
    c5 := by simp [go_sem, e5]
    c6 := by simp [go_sem, e6]
    c7 := by simp [go_sem, e7]
    c8 := by simp [go_sem, e8]
    fz := fun i => by rw [World.frozen?_setCell, hg.frozen_far ⟨B, i, none⟩ hl (hne B hB)]; exact h.fz i
    row := ownsRow_setCell_below hr h.Bb _
    os := hg.os.trans h.os
    tape := hg.tape.trans h.tape
    output := hg.output.trans h.output
    bs := by simpa using Nat.le_trans h.bs hg.size
    fr := fun k hk hkB => (Below.heap_setCell _ _ _ _ hkB).trans ((hg.block k (Nat.lt_of_lt_of_le hk h.bs) (hne k hk)).trans (h.fr k hk hkB))
    Bb := h.Bb }
end

/-- What lies outside of block B has stayed. -/
def Frm (B : Nat) (w w' : World) : Prop := ∀ b o v, b ≠ B → w.cell? ⟨b, o, none⟩ = some v → w'.cell? ⟨b, o, none⟩ = some v
theorem Frm.of_below {B : Nat} {w w' : World} (h : Below w.heap.size w w') : Frm B w w' := fun _ _ _ _ hc => cell_later' h hc
theorem Frm.trans {B : Nat} {w w' w2 : World} (h : Frm B w w') (k : Frm B w' w2) : Frm B w w2 := fun b o v hb hc => k b o v hb (h b o v hb hc)
theorem Frm.set (B : Nat) (w : World) (o : Nat) (u : Value) : Frm B w (w.setCell ⟨B, o, none⟩ u) := fun b i v hb hc => by
  rw [World.cell?_setCell_far w ⟨B, o, none⟩ ⟨b, i, none⟩ u (fun h => hb h.symm)]; exact hc
end Go.Proofs.Yteapmddadieohaa

/- entry. Own work. -/
namespace Go.Proofs.Yteapmddadieohaa
open Go.RowKit
set_option maxHeartbeats 4000000

theorem entry_any (a : Option Addr) (N : Nt) (cap k : Nat) (sd : Int) (w : World) (hk : k < N.pcs.length) (hsd : sd = 0 ∨ sd = 1) (hp : PcsAt w a N.pcs) :
    Calls Try.prog 56 #[.slice a N.pcs.length cap, .agg #[.int .i64 k, .int .i64 sd]] w fun e w' =>
    e = .returned (.agg #[.int .i64 (enterP N (k, sd)).1, .int .i64 (enterP N (k, sd)).2.1, .int .i64 (enterP N (k, sd)).2.2]) ∧ Below w.heap.size w w' := by
  obtain ⟨b, off, rfl, c0, c1, c2, c3⟩ := hp k hk
  have hblt := cell_lt c0
  have hblt1 : b < w.heap.size + 1 := by omega
  have hi : (k : Int) < (N.pcs.length : Int) := by omega
  clear hp c0 c2 c3
  rcases hsd with rfl | rfl
  · go_enter Try.func56, Try.ntmps56
    go_wp2
    exact bodyPost_ret (v := .agg #[.int .i64 k, .int .i64 0, .int .i64 1]) (by simp [results, Try.results56, go_sem]) rfl ⟨rfl, ((Below.refl _ _).alloc (Nat.le_refl _) _).alloc (by simp) _⟩
  · have H := hide (show enterP N (k, 1) = ((k : Int), N.pcs[k].len, -1) by simp [enterP, lenAt_nat N k hk])
    go_enter Try.func56, Try.ntmps56
    go_wp2_with fail
    go_region
    all_goals
      go_wp2_with fail
      refine bodyPost_ret (v := .agg #[.int .i64 k, .int .i64 N.pcs[k].len, .int .i64 (-1)]) (by simp [results, Try.results56, go_sem]) rfl ⟨by rw [H.out], ?_⟩
      exact (((Below.refl _ _).alloc (Nat.le_refl _) _).alloc (by simp) _).drew
end Go.Proofs.Yteapmddadieohaa
