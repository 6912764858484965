/- spec.l3drive. Own work. -/
import Derived.Test.YtcodpnkfpmjleaaGreatDoorMxAH
import Derived.Deep.RegionHeld3
import Derived.Deep.AppendLies
namespace Go.Proofs.YtcodpnkfpmjleaaGreatDoor
open Go.RowKit
set_option maxHeartbeats 4000000

theorem infoPart : (Tryz.prog.info? 238).map (fun i => (i.zero, i.size, i.bytes)) = some (some (.agg #[.int .i64 0, .int .i64 0, .int .i64 0]), 3, 24) := by kernel_rfl

/-- A list of parts, cell by cell. -/
def partCells (ps : List (Int × Int × Int)) : List Value := ps.flatMap fun p => [.int .i64 p.1, .int .i64 p.2.1, .int .i64 p.2.2]

/-- The cells of a struct of six numbers, none of them frozen. -/
structure Six (w : World) (B : Nat) (x0 x1 x2 x3 x4 x5 : Int) : Prop where
  c0 : w.cell? ⟨B, 0, none⟩ = some (.int .i64 x0)
  c1 : w.cell? ⟨B, 1, none⟩ = some (.int .i64 x1)
  c2 : w.cell? ⟨B, 2, none⟩ = some (.int .i64 x2)
  c3 : w.cell? ⟨B, 3, none⟩ = some (.int .i64 x3)
  c4 : w.cell? ⟨B, 4, none⟩ = some (.int .i64 x4)
  c5 : w.cell? ⟨B, 5, none⟩ = some (.int .i64 x5)
  f0 : w.frozen? ⟨B, 0, none⟩ = false
  f1 : w.frozen? ⟨B, 1, none⟩ = false
  f2 : w.frozen? ⟨B, 2, none⟩ = false
  f3 : w.frozen? ⟨B, 3, none⟩ = false
  f4 : w.frozen? ⟨B, 4, none⟩ = false
  f5 : w.frozen? ⟨B, 5, none⟩ = false

theorem Six.later {w w' : World} {B : Nat} {x0 x1 x2 x3 x4 x5 : Int} (h : Six w B x0 x1 x2 x3 x4 x5) (hb : Below w.heap.size w w') : Six w' B x0 x1 x2 x3 x4 x5 := by
  have hl := cell_lt h.c0
  refine ⟨cell_later' hb h.c0, cell_later' hb h.c1, cell_later' hb h.c2, cell_later' hb h.c3, cell_later' hb h.c4, cell_later' hb h.c5, ?_, ?_, ?_, ?_, ?_, ?_⟩
  · rw [hb.frozen (p := ⟨B, 0, none⟩) hl]; exact h.f0
  · rw [hb.frozen (p := ⟨B, 1, none⟩) hl]; exact h.f1
  · rw [hb.frozen (p := ⟨B, 2, none⟩) hl]; exact h.f2
  · rw [hb.frozen (p := ⟨B, 3, none⟩) hl]; exact h.f3
  · rw [hb.frozen (p := ⟨B, 4, none⟩) hl]; exact h.f4
  · rw [hb.frozen (p := ⟨B, 5, none⟩) hl]; exact h.f5

theorem owns_low {w : World} {base base' : Nat} {e : TypeId} {size : Nat} {v : Value} {n : Nat} {xs : List Value} (h : w.ownsRow base e size v n xs) (hb : base' ≤ base) : w.ownsRow base' e size v n xs := by
  refine ⟨h.1, ?_⟩
  rcases h.2 with h | ⟨g, cap, cur, hv, hbg, rest⟩
  · exact .inl h
  · exact .inr ⟨g, cap, cur, hv, Nat.le_trans hb hbg, rest⟩

/-- The result's six cells are written. -/
theorem out6 {w wq : World} {T : TypeId} {v : Value} {n : Nat} {xs : List Value} (ho : wq.ownsRow (w.heap.size + 1 + 1 + 1 + 1) T 3 v n xs) (hb : Below w.heap.size w wq) (x0 x1 x2 x3 x4 x5 : Value) :
    ((((((wq.setCell ⟨w.heap.size + 1 + 1, 0, none⟩ x0).setCell ⟨w.heap.size + 1 + 1, 1, none⟩ x1).setCell ⟨w.heap.size + 1 + 1, 2, none⟩ x2).setCell ⟨w.heap.size + 1 + 1, 3, none⟩ x3).setCell ⟨w.heap.size + 1 + 1, 4, none⟩ x4).setCell ⟨w.heap.size + 1 + 1, 5, none⟩ x5).ownsRow w.heap.size T 3 v n xs ∧
    Below w.heap.size w ((((((wq.setCell ⟨w.heap.size + 1 + 1, 0, none⟩ x0).setCell ⟨w.heap.size + 1 + 1, 1, none⟩ x1).setCell ⟨w.heap.size + 1 + 1, 2, none⟩ x2).setCell ⟨w.heap.size + 1 + 1, 3, none⟩ x3).setCell ⟨w.heap.size + 1 + 1, 4, none⟩ x4).setCell ⟨w.heap.size + 1 + 1, 5, none⟩ x5) := by
  have hlt : w.heap.size + 1 + 1 < w.heap.size + 1 + 1 + 1 + 1 := by omega
  have hle : w.heap.size ≤ w.heap.size + 1 + 1 := by omega
  refine ⟨owns_low (ownsRow_setCell_below (ownsRow_setCell_below (ownsRow_setCell_below (ownsRow_setCell_below (ownsRow_setCell_below (ownsRow_setCell_below ho hlt _) hlt _) hlt _) hlt _) hlt _) hlt _) (by omega), ?_⟩
  exact (((((hb.setCell hle _).setCell hle _).setCell hle _).setCell hle _).setCell hle _).setCell hle _

theorem out8 {w wq : World} {T : TypeId} {v : Value} {n : Nat} {xs : List Value} (ho : wq.ownsRow (w.heap.size + 1 + 1 + 1 + 1) T 3 v n xs) (hb : Below w.heap.size w wq) (o1 o2 : Nat) (y1 y2 : Value) :
    ((wq.setCell ⟨w.heap.size + 1 + 1 + 1, o1, none⟩ y1).setCell ⟨w.heap.size + 1 + 1 + 1, o2, none⟩ y2).ownsRow (w.heap.size + 1 + 1 + 1 + 1) T 3 v n xs ∧ Below w.heap.size w ((wq.setCell ⟨w.heap.size + 1 + 1 + 1, o1, none⟩ y1).setCell ⟨w.heap.size + 1 + 1 + 1, o2, none⟩ y2) := by
  have hlt : w.heap.size + 1 + 1 + 1 < w.heap.size + 1 + 1 + 1 + 1 := by omega
  have hle : w.heap.size ≤ w.heap.size + 1 + 1 + 1 := by omega
  exact ⟨ownsRow_setCell_below (ownsRow_setCell_below ho hlt _) hlt _, (hb.setCell hle _).setCell hle _⟩

/-- Between two rounds of l3drive. -/
structure DB (w wr : World) (v0 v1 : Value) (f q a wy : Int) : Prop where
  n0 : wr.cell? ⟨w.heap.size, 0, none⟩ = some v0
  n1 : wr.cell? ⟨w.heap.size, 1, none⟩ = some v1
  res : Six wr (w.heap.size + 1 + 1) 0 0 0 0 0 0
  out : Six wr (w.heap.size + 1 + 1 + 1) 0 f (-1) q a wy
  below : Below w.heap.size w wr

theorem DB.later {w w1 w2 : World} {v0 v1 : Value} {f q a wy : Int} (h : DB w w1 v0 v1 f q a wy) (hb : Below w1.heap.size w1 w2) : DB w w2 v0 v1 f q a wy :=
  ⟨cell_later' hb h.n0, cell_later' hb h.n1, h.res.later hb, h.out.later hb, h.below.trans (hb.mono h.below.size)⟩

theorem owns_later' {w w' : World} {base : Nat} {e : TypeId} {size : Nat} {v : Value} {n : Nat} {xs : List Value} (h : w.ownsRow base e size v n xs) (hb : Below w.heap.size w w') : w'.ownsRow base e size v n xs := by
  refine ⟨h.1, ?_⟩
  rcases h.2 with h | ⟨g, cap, cur, hv, hbg, hg, rest⟩
  · exact .inl h
  · refine .inr ⟨g, cap, cur, hv, hbg, ?_, rest⟩
    rw [hb.block g (by
      rcases Nat.lt_or_ge g w.heap.size with h | h
      · exact h
      · rw [Array.getElem?_eq_none h] at hg; cases hg)]
    exact hg

theorem news_at {W : World} {n : Nat} {cs : Array Value} {T : TypeId} (h : W.heap.size = n) : ∀ j u, cs.toList[j]? = some u → (W.alloc (.cells cs T)).cell? ((⟨n, 0, none⟩ : Addr).add j) = some u := by
  subst h
  exact World.news_of_block (heap_alloc_new W _)

theorem box_frozen {w w1 : World} {cs : Array Value} {T : TypeId} (hb : Below (w.alloc (.cells cs T)).heap.size (w.alloc (.cells cs T)) w1) (i : Nat) : w1.frozen? ⟨w.heap.size, i, none⟩ = false := by
  rw [hb.frozen (p := ⟨w.heap.size, i, none⟩) (by simp)]
  simp [go_sem]

theorem box_cell_d {w w1 : World} {cs : Array Value} {T : TypeId} (hb : Below (w.alloc (.cells cs T)).drew.heap.size (w.alloc (.cells cs T)).drew w1) (i : Nat) (v : Value) (h : cs[i]? = some v) : w1.cell? ⟨w.heap.size, i, none⟩ = some v :=
  cell_keep hb (by show w.heap.size < (w.alloc (.cells cs T)).heap.size; simp) (show (w.alloc (.cells cs T)).cell? ⟨w.heap.size, i, none⟩ = some v from new_cell w cs T i v h)
theorem box_frozen_d {w w1 : World} {cs : Array Value} {T : TypeId} (hb : Below (w.alloc (.cells cs T)).drew.heap.size (w.alloc (.cells cs T)).drew w1) (i : Nat) : w1.frozen? ⟨w.heap.size, i, none⟩ = false := by
  rw [hb.frozen (p := ⟨w.heap.size, i, none⟩) (by show w.heap.size < (w.alloc (.cells cs T)).heap.size; simp)]
  simp [go_sem]

theorem frozen_later {w w1 : World} {b o : Nat} {v : Value} (hb : Below w.heap.size w w1) (hc : w.cell? ⟨b, o, none⟩ = some v) (h : w.frozen? ⟨b, o, none⟩ = false) : w1.frozen? ⟨b, o, none⟩ = false := by
  rw [hb.frozen (p := ⟨b, o, none⟩) (cell_lt hc)]; exact h

theorem Six.set {w : World} {B b o : Nat} {x0 x1 x2 x3 x4 x5 : Int} (h : Six w B x0 x1 x2 x3 x4 x5) (hne : b ≠ B) (v : Value) : Six (w.setCell ⟨b, o, none⟩ v) B x0 x1 x2 x3 x4 x5 := by
  have e : ∀ i, (w.setCell ⟨b, o, none⟩ v).cell? ⟨B, i, none⟩ = w.cell? ⟨B, i, none⟩ := fun i => World.cell?_setCell_far w ⟨b, o, none⟩ ⟨B, i, none⟩ v hne
  have g : ∀ i, (w.setCell ⟨b, o, none⟩ v).frozen? ⟨B, i, none⟩ = w.frozen? ⟨B, i, none⟩ := fun i => World.frozen?_setCell ..
  exact ⟨(e 0).trans h.c0, (e 1).trans h.c1, (e 2).trans h.c2, (e 3).trans h.c3, (e 4).trans h.c4, (e 5).trans h.c5, (g 0).trans h.f0, (g 1).trans h.f1, (g 2).trans h.f2, (g 3).trans h.f3, (g 4).trans h.f4, (g 5).trans h.f5⟩

theorem DB.set {w w1 : World} {v0 v1 : Value} {f q a wy : Int} (h : DB w w1 v0 v1 f q a wy) {b o : Nat} (hb : w.heap.size + 1 + 1 + 1 < b) (v : Value) : DB w (w1.setCell ⟨b, o, none⟩ v) v0 v1 f q a wy := by
  have e : ∀ B i, B < b → (w1.setCell ⟨b, o, none⟩ v).cell? ⟨B, i, none⟩ = w1.cell? ⟨B, i, none⟩ := fun B i hB => World.cell?_setCell_far w1 ⟨b, o, none⟩ ⟨B, i, none⟩ v (by show b ≠ B; omega)
  exact ⟨(e _ 0 (by omega)).trans h.n0, (e _ 1 (by omega)).trans h.n1, h.res.set (by omega) v, h.out.set (by omega) v, h.below.setCell (by show w.heap.size ≤ b; omega) v⟩

theorem Six.grown {w w' : World} {row : Option Nat} {B : Nat} {x0 x1 x2 x3 x4 x5 : Int} (h : Six w B x0 x1 x2 x3 x4 x5) (hg : w.grownBy w' row) (hne : some B ≠ row) : Six w' B x0 x1 x2 x3 x4 x5 := by
  have hl := cell_lt h.c0
  have e : ∀ i, w'.cell? ⟨B, i, none⟩ = w.cell? ⟨B, i, none⟩ := fun i => hg.cell_far ⟨B, i, none⟩ hl hne
  have g : ∀ i, w'.frozen? ⟨B, i, none⟩ = w.frozen? ⟨B, i, none⟩ := fun i => hg.frozen_far ⟨B, i, none⟩ hl hne
  exact ⟨(e 0).trans h.c0, (e 1).trans h.c1, (e 2).trans h.c2, (e 3).trans h.c3, (e 4).trans h.c4, (e 5).trans h.c5, (g 0).trans h.f0, (g 1).trans h.f1, (g 2).trans h.f2, (g 3).trans h.f3, (g 4).trans h.f4, (g 5).trans h.f5⟩

theorem DB.grown {w w1 w2 : World} {v0 v1 : Value} {f q a wy : Int} {row : Option Nat} (h : DB w w1 v0 v1 f q a wy) (hg : w1.grownBy w2 row) (hrow : ∀ g, row = some g → w.heap.size + 1 + 1 + 1 + 1 ≤ g) : DB w w2 v0 v1 f q a wy := by
  have hne : ∀ B, B < w.heap.size + 1 + 1 + 1 + 1 → some B ≠ row := fun B hB e => by have := hrow B e.symm; omega
  refine ⟨?_, ?_, h.res.grown hg (hne _ (by omega)), h.out.grown hg (hne _ (by omega)), h.below.grown hg h.below.size (fun k e => by have := hrow k e; omega)⟩
  · rw [hg.cell_far ⟨w.heap.size, 0, none⟩ (cell_lt h.n0) (hne _ (by show w.heap.size < _; omega))]; exact h.n0
  · rw [hg.cell_far ⟨w.heap.size, 1, none⟩ (cell_lt h.n1) (hne _ (by show w.heap.size < _; omega))]; exact h.n1

theorem DB.spot {w w1 : World} {v0 v1 : Value} {f q a wy : Int} (h : DB w w1 v0 v1 f q a wy) (q' a' wy' : Int) :
    DB w (((w1.setCell ⟨w.heap.size + 1 + 1 + 1, 3, none⟩ (.int .i64 q')).setCell ⟨w.heap.size + 1 + 1 + 1, 4, none⟩ (.int .i64 a')).setCell ⟨w.heap.size + 1 + 1 + 1, 5, none⟩ (.int .i64 wy')) v0 v1 f q' a' wy' := by
  obtain ⟨n0, n1, hres, ⟨o0, o1, o2, o3, o4, o5, f0, f1, f2, f3, f4, f5⟩, hb⟩ := h
  refine ⟨by simp [go_sem, n0], by simp [go_sem, n1], ((hres.set (by omega) _).set (by omega) _).set (by omega) _, ⟨by simp [go_sem, o0], by simp [go_sem, o1], by simp [go_sem, o2], by simp [go_sem, o3], by simp [go_sem, o4], by simp [go_sem, o5], by simp [go_sem, f0], by simp [go_sem, f1], by simp [go_sem, f2], by simp [go_sem, f3], by simp [go_sem, f4], by simp [go_sem, f5]⟩, ((hb.setCell (by show _ ≤ w.heap.size + 1 + 1 + 1; omega) _).setCell (by show _ ≤ w.heap.size + 1 + 1 + 1; omega) _).setCell (by show _ ≤ w.heap.size + 1 + 1 + 1; omega) _⟩

theorem DB.went {w w1 : World} {v0 v1 : Value} {f q a wy : Int} (h : DB w w1 v0 v1 f q a wy) (f' a' : Int) :
    DB w ((w1.setCell ⟨w.heap.size + 1 + 1 + 1, 4, none⟩ (.int .i64 a')).setCell ⟨w.heap.size + 1 + 1 + 1, 1, none⟩ (.int .i64 f')) v0 v1 f' q a' wy := by
  obtain ⟨n0, n1, hres, ⟨o0, o1, o2, o3, o4, o5, f0, f1, f2, f3, f4, f5⟩, hb⟩ := h
  refine ⟨by simp [go_sem, n0], by simp [go_sem, n1], (hres.set (by omega) _).set (by omega) _, ⟨by simp [go_sem, o0], by simp [go_sem, o1], by simp [go_sem, o2], by simp [go_sem, o3], by simp [go_sem, o4], by simp [go_sem, o5], by simp [go_sem, f0], by simp [go_sem, f1], by simp [go_sem, f2], by simp [go_sem, f3], by simp [go_sem, f4], by simp [go_sem, f5]⟩, (hb.setCell (by show _ ≤ w.heap.size + 1 + 1 + 1; omega) _).setCell (by show _ ≤ w.heap.size + 1 + 1 + 1; omega) _⟩

/-- What the drawn region holds on to. -/
abbrev DS (w w' : World) (v0 v1 : Value) (f q a wy : Int) : Prop :=
  (w'.cell? ⟨w.heap.size, 0, none⟩ = some v0 ∧ w'.cell? ⟨w.heap.size, 1, none⟩ = some v1 ∧ w'.cell? ⟨w.heap.size + 1 + 1 + 1, 3, none⟩ = some (.int .i64 q) ∧ w'.cell? ⟨w.heap.size + 1 + 1 + 1, 4, none⟩ = some (.int .i64 a) ∧ w'.cell? ⟨w.heap.size + 1 + 1 + 1, 5, none⟩ = some (.int .i64 wy)) ∧ Hid (DB w w' v0 v1 f q a wy)
theorem dbS {w w' : World} {v0 v1 : Value} {f q a wy : Int} (h : DB w w' v0 v1 f q a wy) : DS w w' v0 v1 f q a wy := ⟨⟨h.n0, h.n1, h.out.c3, h.out.c4, h.out.c5⟩, h⟩
theorem heldD {w w' : World} {v0 v1 : Value} {f q a wy : Int} (h : DS w w' v0 v1 f q a wy) : DB w w' v0 v1 f q a wy := h.2
theorem keepD {w w1 w2 : World} {v0 v1 : Value} {f q a wy : Int} (hb : Below w1.heap.size w1 w2) (h : DS w w1 v0 v1 f q a wy) : DS w w2 v0 v1 f q a wy := dbS ((heldD h).later hb)

def farOf (wr : World) (B : Nat) : Int := match wr.cell? ⟨B, 1, none⟩ with | some v => intOf v | none => 0
theorem farOf_eq {wr : World} {B : Nat} {x : Int} (h : wr.cell? ⟨B, 1, none⟩ = some (.int .i64 x)) : farOf wr B = x := by simp [farOf, h, intOf]

end Go.Proofs.YtcodpnkfpmjleaaGreatDoor
