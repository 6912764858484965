/- spec.l3drive. Own work. -/
import Derived.Test.YteapmddadieohaaDrP
import Derived.Deep.RegionHeld3
import Derived.Deep.AppendLies
namespace Go.Proofs.Yteapmddadieohaa
open Go.RowKit
set_option maxHeartbeats 4000000

theorem infoPart : (Try.prog.info? 79).map (fun i => (i.zero, i.size, i.bytes)) = some (some (.agg #[.int .i64 0, .int .i64 0, .int .i64 0]), 3, 24) := by kernel_rfl

/-- A list of parts, cell by cell. -/
def partCells (ps : List (Int × Int × Int)) : List Value := ps.flatMap fun p => [.int .i64 p.1, .int .i64 p.2.1, .int .i64 p.2.2]

/-- The cells of a struct of six numbers, none of them frozen. -/
structure Six (w : World) (B : Nat) (x0 x1 x2 x3 x4 x5 : Int) : Prop where
  c0 : w.cell? ⟨B, 0, none⟩ = some (.int .i64 x0)
  c1 : w.cell? ⟨B, 1, none⟩ = some (.int .i64 x1)
  c2 : w.cell? ⟨B, 2, none⟩ = some (.int .i64 x2)
  c3 : w.cell? ⟨B, 3, none⟩ = some (.int .i64 x3)
  c4 : w.cell? ⟨B, 4, none⟩ = some (.int .i64 x4)
  c5 : w.cell? ⟨B, 5, none⟩ = some (.int .i64 x5)
  f0 : w.frozen? ⟨B, 0, none⟩ = false
  f1 : w.frozen? ⟨B, 1, none⟩ = false
  f2 : w.frozen? ⟨B, 2, none⟩ = false
  f3 : w.frozen? ⟨B, 3, none⟩ = false
  f4 : w.frozen? ⟨B, 4, none⟩ = false
  f5 : w.frozen? ⟨B, 5, none⟩ = false

theorem Six.later {w w' : World} {B : Nat} {x0 x1 x2 x3 x4 x5 : Int} (h : Six w B x0 x1 x2 x3 x4 x5) (hb : Below w.heap.size w w') : Six w' B x0 x1 x2 x3 x4 x5 := by
  have hl := cell_lt h.c0
  refine ⟨cell_later' hb h.c0, cell_later' hb h.c1, cell_later' hb h.c2, cell_later' hb h.c3, cell_later' hb h.c4, cell_later' hb h.c5, ?_, ?_, ?_, ?_, ?_, ?_⟩
  · rw [hb.frozen (p := ⟨B, 0, none⟩) hl]; exact h.f0
  · rw [hb.frozen (p := ⟨B, 1, none⟩) hl]; exact h.f1
  · rw [hb.frozen (p := ⟨B, 2, none⟩) hl]; exact h.f2
  · rw [hb.frozen (p := ⟨B, 3, none⟩) hl]; exact h.f3
  · rw [hb.frozen (p := ⟨B, 4, none⟩) hl]; exact h.f4
  · rw [hb.frozen (p := ⟨B, 5, none⟩) hl]; exact h.f5

theorem owns_low {w : World} {base base' : Nat} {e : TypeId} {size : Nat} {v : Value} {n : Nat} {xs : List Value} (h : w.ownsRow base e size v n xs) (hb : base' ≤ base) : w.ownsRow base' e size v n xs := by
  refine ⟨h.1, ?_⟩
  rcases h.2 with h | ⟨g, cap, cur, hv, hbg, rest⟩
  · exact .inl h
  · exact .inr ⟨g, cap, cur, hv, Nat.le_trans hb hbg, rest⟩

/-- The result's six cells are written. -/
theorem out6 {w wq : World} {T : TypeId} {v : Value} {n : Nat} {xs : List Value} (ho : wq.ownsRow (w.heap.size + 1 + 1 + 1 + 1) T 3 v n xs) (hb : Below w.heap.size w wq) (x0 x1 x2 x3 x4 x5 : Value) :
    ((((((wq.setCell ⟨w.heap.size + 1 + 1, 0, none⟩ x0).setCell ⟨w.heap.size + 1 + 1, 1, none⟩ x1).setCell ⟨w.heap.size + 1 + 1, 2, none⟩ x2).setCell ⟨w.heap.size + 1 + 1, 3, none⟩ x3).setCell ⟨w.heap.size + 1 + 1, 4, none⟩ x4).setCell ⟨w.heap.size + 1 + 1, 5, none⟩ x5).ownsRow w.heap.size T 3 v n xs ∧
    Below w.heap.size w ((((((wq.setCell ⟨w.heap.size + 1 + 1, 0, none⟩ x0).setCell ⟨w.heap.size + 1 + 1, 1, none⟩ x1).setCell ⟨w.heap.size + 1 + 1, 2, none⟩ x2).setCell ⟨w.heap.size + 1 + 1, 3, none⟩ x3).setCell ⟨w.heap.size + 1 + 1, 4, none⟩ x4).setCell ⟨w.heap.size + 1 + 1, 5, none⟩ x5) := by
  have hlt : w.heap.size + 1 + 1 < w.heap.size + 1 + 1 + 1 + 1 := by omega
  have hle : w.heap.size ≤ w.heap.size + 1 + 1 := by omega
  refine ⟨owns_low (ownsRow_setCell_below (ownsRow_setCell_below (ownsRow_setCell_below (ownsRow_setCell_below (ownsRow_setCell_below (ownsRow_setCell_below ho hlt _) hlt _) hlt _) hlt _) hlt _) hlt _) (by omega), ?_⟩
  exact (((((hb.setCell hle _).setCell hle _).setCell hle _).setCell hle _).setCell hle _).setCell hle _

theorem out8 {w wq : World} {T : TypeId} {v : Value} {n : Nat} {xs : List Value} (ho : wq.ownsRow (w.heap.size + 1 + 1 + 1 + 1) T 3 v n xs) (hb : Below w.heap.size w wq) (o1 o2 : Nat) (y1 y2 : Value) :
    ((wq.setCell ⟨w.heap.size + 1 + 1 + 1, o1, none⟩ y1).setCell ⟨w.heap.size + 1 + 1 + 1, o2, none⟩ y2).ownsRow (w.heap.size + 1 + 1 + 1 + 1) T 3 v n xs ∧ Below w.heap.size w ((wq.setCell ⟨w.heap.size + 1 + 1 + 1, o1, none⟩ y1).setCell ⟨w.heap.size + 1 + 1 + 1, o2, none⟩ y2) := by
  have hlt : w.heap.size + 1 + 1 + 1 < w.heap.size + 1 + 1 + 1 + 1 := by omega
  have hle : w.heap.size ≤ w.heap.size + 1 + 1 + 1 := by omega
  exact ⟨ownsRow_setCell_below (ownsRow_setCell_below ho hlt _) hlt _, (hb.setCell hle _).setCell hle _⟩

/-- Between two rounds of l3drive. -/
structure DB (w wr : World) (v0 v1 : Value) (f q a wy : Int) : Prop where
  n0 : wr.cell? ⟨w.heap.size, 0, none⟩ = some v0
  n1 : wr.cell? ⟨w.heap.size, 1, none⟩ = some v1
  res : Six wr (w.heap.size + 1 + 1) 0 0 0 0 0 0
  out : Six wr (w.heap.size + 1 + 1 + 1) 0 f (-1) q a wy
  below : Below w.heap.size w wr

theorem DB.later {w w1 w2 : World} {v0 v1 : Value} {f q a wy : Int} (h : DB w w1 v0 v1 f q a wy) (hb : Below w1.heap.size w1 w2) : DB w w2 v0 v1 f q a wy :=
  ⟨cell_later' hb h.n0, cell_later' hb h.n1, h.res.later hb, h.out.later hb, h.below.trans (hb.mono h.below.size)⟩

theorem owns_later' {w w' : World} {base : Nat} {e : TypeId} {size : Nat} {v : Value} {n : Nat} {xs : List Value} (h : w.ownsRow base e size v n xs) (hb : Below w.heap.size w w') : w'.ownsRow base e size v n xs := by
  refine ⟨h.1, ?_⟩
  rcases h.2 with h | ⟨g, cap, cur, hv, hbg, hg, rest⟩
  · exact .inl h
  · refine .inr ⟨g, cap, cur, hv, hbg, ?_, rest⟩
    rw [hb.block g (by
      rcases Nat.lt_or_ge g w.heap.size with h | h
      · exact h
      · rw [Array.getElem?_eq_none h] at hg; cases hg)]
    exact hg

theorem news_at {W : World} {n : Nat} {cs : Array Value} {T : TypeId} (h : W.heap.size = n) : ∀ j u, cs.toList[j]? = some u → (W.alloc (.cells cs T)).cell? ((⟨n, 0, none⟩ : Addr).add j) = some u := by
  subst h
  exact World.news_of_block (heap_alloc_new W _)

theorem box_frozen {w w1 : World} {cs : Array Value} {T : TypeId} (hb : Below (w.alloc (.cells cs T)).heap.size (w.alloc (.cells cs T)) w1) (i : Nat) : w1.frozen? ⟨w.heap.size, i, none⟩ = false := by
  rw [hb.frozen (p := ⟨w.heap.size, i, none⟩) (by simp)]
  simp [go_sem]

theorem box_cell_d {w w1 : World} {cs : Array Value} {T : TypeId} (hb : Below (w.alloc (.cells cs T)).drew.heap.size (w.alloc (.cells cs T)).drew w1) (i : Nat) (v : Value) (h : cs[i]? = some v) : w1.cell? ⟨w.heap.size, i, none⟩ = some v :=
  cell_keep hb (by show w.heap.size < (w.alloc (.cells cs T)).heap.size; simp) (show (w.alloc (.cells cs T)).cell? ⟨w.heap.size, i, none⟩ = some v from new_cell w cs T i v h)
theorem box_frozen_d {w w1 : World} {cs : Array Value} {T : TypeId} (hb : Below (w.alloc (.cells cs T)).drew.heap.size (w.alloc (.cells cs T)).drew w1) (i : Nat) : w1.frozen? ⟨w.heap.size, i, none⟩ = false := by
  rw [hb.frozen (p := ⟨w.heap.size, i, none⟩) (by show w.heap.size < (w.alloc (.cells cs T)).heap.size; simp)]
  simp [go_sem]

theorem frozen_later {w w1 : World} {b o : Nat} {v : Value} (hb : Below w.heap.size w w1) (hc : w.cell? ⟨b, o, none⟩ = some v) (h : w.frozen? ⟨b, o, none⟩ = false) : w1.frozen? ⟨b, o, none⟩ = false := by
  rw [hb.frozen (p := ⟨b, o, none⟩) (cell_lt hc)]; exact h

theorem Six.set {w : World} {B b o : Nat} {x0 x1 x2 x3 x4 x5 : Int} (h : Six w B x0 x1 x2 x3 x4 x5) (hne : b ≠ B) (v : Value) : Six (w.setCell ⟨b, o, none⟩ v) B x0 x1 x2 x3 x4 x5 := by
  have e : ∀ i, (w.setCell ⟨b, o, none⟩ v).cell? ⟨B, i, none⟩ = w.cell? ⟨B, i, none⟩ := fun i => World.cell?_setCell_far w ⟨b, o, none⟩ ⟨B, i, none⟩ v hne
  have g : ∀ i, (w.setCell ⟨b, o, none⟩ v).frozen? ⟨B, i, none⟩ = w.frozen? ⟨B, i, none⟩ := fun i => World.frozen?_setCell ..
  exact ⟨(e 0).trans h.c0, (e 1).trans h.c1, (e 2).trans h.c2, (e 3).trans h.c3, (e 4).trans h.c4, (e 5).trans h.c5, (g 0).trans h.f0, (g 1).trans h.f1, (g 2).trans h.f2, (g 3).trans h.f3, (g 4).trans h.f4, (g 5).trans h.f5⟩

theorem DB.set {w w1 : World} {v0 v1 : Value} {f q a wy : Int} (h : DB w w1 v0 v1 f q a wy) {b o : Nat} (hb : w.heap.size + 1 + 1 + 1 < b) (v : Value) : DB w (w1.setCell ⟨b, o, none⟩ v) v0 v1 f q a wy := by
  have e : ∀ B i, B < b → (w1.setCell ⟨b, o, none⟩ v).cell? ⟨B, i, none⟩ = w1.cell? ⟨B, i, none⟩ := fun B i hB => World.cell?_setCell_far w1 ⟨b, o, none⟩ ⟨B, i, none⟩ v (by show b ≠ B; omega)
  exact ⟨(e _ 0 (by omega)).trans h.n0, (e _ 1 (by omega)).trans h.n1, h.res.set (by omega) v, h.out.set (by omega) v, h.below.setCell (by show w.heap.size ≤ b; omega) v⟩

theorem Six.grown {w w' : World} {row : Option Nat} {B : Nat} {x0 x1 x2 x3 x4 x5 : Int} (h : Six w B x0 x1 x2 x3 x4 x5) (hg : w.grownBy w' row) (hne : some B ≠ row) : Six w' B x0 x1 x2 x3 x4 x5 := by
  have hl := cell_lt h.c0
  have e : ∀ i, w'.cell? ⟨B, i, none⟩ = w.cell? ⟨B, i, none⟩ := fun i => hg.cell_far ⟨B, i, none⟩ hl hne
  have g : ∀ i, w'.frozen? ⟨B, i, none⟩ = w.frozen? ⟨B, i, none⟩ := fun i => hg.frozen_far ⟨B, i, none⟩ hl hne
  exact ⟨(e 0).trans h.c0, (e 1).trans h.c1, (e 2).trans h.c2, (e 3).trans h.c3, (e 4).trans h.c4, (e 5).trans h.c5, (g 0).trans h.f0, (g 1).trans h.f1, (g 2).trans h.f2, (g 3).trans h.f3, (g 4).trans h.f4, (g 5).trans h.f5⟩

theorem DB.grown {w w1 w2 : World} {v0 v1 : Value} {f q a wy : Int} {row : Option Nat} (h : DB w w1 v0 v1 f q a wy) (hg : w1.grownBy w2 row) (hrow : ∀ g, row = some g → w.heap.size + 1 + 1 + 1 + 1 ≤ g) : DB w w2 v0 v1 f q a wy := by
  have hne : ∀ B, B < w.heap.size + 1 + 1 + 1 + 1 → some B ≠ row := fun B hB e => by have := hrow B e.symm; omega
  refine ⟨?_, ?_, h.res.grown hg (hne _ (by omega)), h.out.grown hg (hne _ (by omega)), h.below.grown hg h.below.size (fun k e => by have := hrow k e; omega)⟩
  · rw [hg.cell_far ⟨w.heap.size, 0, none⟩ (cell_lt h.n0) (hne _ (by show w.heap.size < _; omega))]; exact h.n0
  · rw [hg.cell_far ⟨w.heap.size, 1, none⟩ (cell_lt h.n1) (hne _ (by show w.heap.size < _; omega))]; exact h.n1

theorem DB.spot {w w1 : World} {v0 v1 : Value} {f q a wy : Int} (h : DB w w1 v0 v1 f q a wy) (q' a' wy' : Int) :
    DB w (((w1.setCell ⟨w.heap.size + 1 + 1 + 1, 3, none⟩ (.int .i64 q')).setCell ⟨w.heap.size + 1 + 1 + 1, 4, none⟩ (.int .i64 a')).setCell ⟨w.heap.size + 1 + 1 + 1, 5, none⟩ (.int .i64 wy')) v0 v1 f q' a' wy' := by
  obtain ⟨n0, n1, hres, ⟨o0, o1, o2, o3, o4, o5, f0, f1, f2, f3, f4, f5⟩, hb⟩ := h
  refine ⟨by simp [go_sem, n0], by simp [go_sem, n1], ((hres.set (by omega) _).set (by omega) _).set (by omega) _, ⟨by simp [go_sem, o0], by simp [go_sem, o1], by simp [go_sem, o2], by simp [go_sem, o3], by simp [go_sem, o4], by simp [go_sem, o5], by simp [go_sem, f0], by simp [go_sem, f1], by simp [go_sem, f2], by simp [go_sem, f3], by simp [go_sem, f4], by simp [go_sem, f5]⟩, ((hb.setCell (by show _ ≤ w.heap.size + 1 + 1 + 1; omega) _).setCell (by show _ ≤ w.heap.size + 1 + 1 + 1; omega) _).setCell (by show _ ≤ w.heap.size + 1 + 1 + 1; omega) _⟩

theorem DB.went {w w1 : World} {v0 v1 : Value} {f q a wy : Int} (h : DB w w1 v0 v1 f q a wy) (f' a' : Int) :
    DB w ((w1.setCell ⟨w.heap.size + 1 + 1 + 1, 4, none⟩ (.int .i64 a')).setCell ⟨w.heap.size + 1 + 1 + 1, 1, none⟩ (.int .i64 f')) v0 v1 f' q a' wy := by
  obtain ⟨n0, n1, hres, ⟨o0, o1, o2, o3, o4, o5, f0, f1, f2, f3, f4, f5⟩, hb⟩ := h
  refine ⟨by simp [go_sem, n0], by simp [go_sem, n1], (hres.set (by omega) _).set (by omega) _, ⟨by simp [go_sem, o0], by simp [go_sem, o1], by simp [go_sem, o2], by simp [go_sem, o3], by simp [go_sem, o4], by simp [go_sem, o5], by simp [go_sem, f0], by simp [go_sem, f1], by simp [go_sem, f2], by simp [go_sem, f3], by simp [go_sem, f4], by simp [go_sem, f5]⟩, (hb.setCell (by show _ ≤ w.heap.size + 1 + 1 + 1; omega) _).setCell (by show _ ≤ w.heap.size + 1 + 1 + 1; omega) _⟩

/-- What the drawn region holds on to. -/
abbrev DS (w w' : World) (v0 v1 : Value) (f q a wy : Int) : Prop :=
  (w'.cell? ⟨w.heap.size, 0, none⟩ = some v0 ∧ w'.cell? ⟨w.heap.size, 1, none⟩ = some v1 ∧ w'.cell? ⟨w.heap.size + 1 + 1 + 1, 3, none⟩ = some (.int .i64 q) ∧ w'.cell? ⟨w.heap.size + 1 + 1 + 1, 4, none⟩ = some (.int .i64 a) ∧ w'.cell? ⟨w.heap.size + 1 + 1 + 1, 5, none⟩ = some (.int .i64 wy)) ∧ Hid (DB w w' v0 v1 f q a wy)
theorem dbS {w w' : World} {v0 v1 : Value} {f q a wy : Int} (h : DB w w' v0 v1 f q a wy) : DS w w' v0 v1 f q a wy := ⟨⟨h.n0, h.n1, h.out.c3, h.out.c4, h.out.c5⟩, h⟩
theorem heldD {w w' : World} {v0 v1 : Value} {f q a wy : Int} (h : DS w w' v0 v1 f q a wy) : DB w w' v0 v1 f q a wy := h.2
theorem keepD {w w1 w2 : World} {v0 v1 : Value} {f q a wy : Int} (hb : Below w1.heap.size w1 w2) (h : DS w w1 v0 v1 f q a wy) : DS w w2 v0 v1 f q a wy := dbS ((heldD h).later hb)

theorem l3head_at {q at' way x y : Int} (h : headP q way = (x, y)) (w : World) :
    Calls Try.prog 38 #[.agg #[.int .i64 q, .int .i64 at', .int .i64 way]] w fun e w' =>
    e = .returned (.agg #[.int .i64 x, .int .i64 y]) ∧ Below w.heap.size w w' := by
  refine (l3head_any q at' way w).mono fun e w' h' => ?_
  rw [h] at h'
  exact h'

def farOf (wr : World) (B : Nat) : Int := match wr.cell? ⟨B, 1, none⟩ with | some v => intOf v | none => 0
theorem farOf_eq {wr : World} {B : Nat} {x : Int} (h : wr.cell? ⟨B, 1, none⟩ = some (.int .i64 x)) : farOf wr B = x := by simp [farOf, h, intOf]

set_option maxRecDepth 20000 in
theorem l3drive_any (a a' z : Option Addr) (N : Nt) (cap cap' zc : Nat) (xs : List Int) (q0 at0 wy0 far : Int) (w : World) (hl : N.jts.length ≤ 1048576) (hm : ∀ j ∈ N.jts, j.ends.length ≤ 1048576)
    (hright : netOk N = (0, 0)) (hlies : liesP N.jts xs = true) (hspot : spotP N q0 at0 wy0 = true) (hfar : 0 ≤ far ∧ far ≤ 1000000) (hp : PcsAt w a N.pcs) (hj : JtsAt w a' N.jts) (hz : IntsAt w z xs) :
    Calls Try.prog 23 #[.agg #[.slice a N.pcs.length cap, .slice a' N.jts.length cap'], .slice z xs.length zc, .agg #[.int .i64 q0, .int .i64 at0, .int .i64 wy0], .int .i64 far] w fun e w' =>
    ∃ r : DRes, DriveR N xs far 0 q0 at0 wy0 0 [] r ∧ r.ps.length ≤ 1000000 ∧ ∃ v : Value, e = .returned (.tuple #[.agg #[.int .i64 r.code, .int .i64 r.far, .int .i64 r.joint, .int .i64 r.q, .int .i64 r.at', .int .i64 r.way], v]) ∧ w'.ownsRow w.heap.size 79 3 v r.ps.length (partCells r.ps) ∧ Below w.heap.size w w' := by
  obtain ⟨i0, hi, hz0, hz1, hz2⟩ := info_parts infoPart
  have HI := hide hi
  have HZ0 := hide hz0
  have HZ1 := hide hz1
  have HZ2 := hide hz2
  have HP := hide hp
  have HJ := hide hj
  have HZ := hide hz
  have HM := hide hm
  have HRT := hide hright
  have HLI := hide hlies
  have HSP := hide hspot
  clear hi hz0 hz1 hz2 hp hj hz hm hright hlies hspot
  go_enter Try.func23, Try.ntmps23
  go_wp2_with fail
  have HDB0 : Hid (DB w ((((w.alloc (.cells #[.slice a N.pcs.length cap, .slice a' N.jts.length cap'] 26)).alloc (.cells #[.int .i64 q0, .int .i64 at0, .int .i64 wy0] 29)).alloc (.cells #[.int .i64 0, .int .i64 0, .int .i64 0, .int .i64 0, .int .i64 0, .int .i64 0] 35)).alloc (.cells #[.int .i64 0, .int .i64 0, .int .i64 (-1), .int .i64 q0, .int .i64 at0, .int .i64 wy0] 35)) (.slice a N.pcs.length cap) (.slice a' N.jts.length cap') 0 q0 at0 wy0) :=
    ⟨by simp [go_sem], by simp [go_sem], ⟨by simp [go_sem], by simp [go_sem], by simp [go_sem], by simp [go_sem], by simp [go_sem], by simp [go_sem], by simp [go_sem], by simp [go_sem], by simp [go_sem], by simp [go_sem], by simp [go_sem], by simp [go_sem]⟩, ⟨by simp [go_sem], by simp [go_sem], by simp [go_sem], by simp [go_sem], by simp [go_sem], by simp [go_sem], by simp [go_sem], by simp [go_sem], by simp [go_sem], by simp [go_sem], by simp [go_sem], by simp [go_sem]⟩, ((((Below.refl _ _).alloc (Nat.le_refl _) _).alloc (by simp) _).alloc (by simp; omega) _).alloc (by simp; omega) _⟩
  go_loopw [11, 12] (fun v o wr => ∃ (f q b wy : Int) (ov : Nat) (ps : List (Int × Int × Int)), o = .int .i64 ov ∧ ov ≤ 1000 ∧ 0 ≤ f ∧ f ≤ far ∧ (ps.length : Int) ≤ f ∧ Hid (spotP N q b wy = true) ∧ Hid (wr.ownsRow (w.heap.size + 1 + 1 + 1 + 1) 79 3 v ps.length (partCells ps)) ∧ DB w wr (.slice a N.pcs.length cap) (.slice a' N.jts.length cap') f q b wy ∧ Hid (∀ r, DriveR N xs far f q b wy ov ps r → DriveR N xs far 0 q0 at0 wy0 0 [] r)) (fun _ o wr => (1000 - (intOf o).toNat) + (far - farOf wr (w.heap.size + 1 + 1 + 1)).toNat)
  case atStart => exact ⟨0, q0, at0, wy0, 0, [], rfl, by omega, by omega, by omega, by simp, HSP.out, World.ownsRow_nil _ _ _ _, HDB0.out, fun r h => h⟩
  case round =>
    obtain ⟨f, q, b, wy, ov, ps, rfl, hov, hf0, hf1, hpl, HSPq, HOW, hDB, HREL⟩ := hrel
    have HDB := hide hDB
    obtain ⟨n0, n1, ⟨r0, r1, r2, r3, r4, r5, rf0, rf1, rf2, rf3, rf4, rf5⟩, ⟨o0, o1, o2, o3, o4, o5, of0, of1, of2, of3, of4, of5⟩, hb⟩ := hDB
    have hz0 := cell_lt n0
    have hz3 := cell_lt o0
    have hfo := farOf_eq o1
    by_cases hlt : f < far
    · have hsp := HSPq.out
      simp only [spotP, inR, Bool.and_eq_true, Bool.or_eq_true, decide_eq_true_eq, beq_iff_eq] at hsp
      obtain ⟨⟨⟨hq0, hq1⟩, hwy⟩, hb0, hb1⟩ := hsp
      obtain ⟨k, rfl⟩ := Int.eq_ofNat_of_zero_le hq0
      have hk : k < N.pcs.length := by omega
      rw [lenAt_nat N k hk] at hb1
      have hpk : 1 ≤ N.pcs[k].len ∧ N.pcs[k].len ≤ 10000000 := by
        have h2 := (right_facts HRT.out).2.1 k hk
        rw [pcBad_eq hk] at h2
        simp only [Bool.or_eq_false_iff, Bool.not_eq_false', Pc.ok, Bool.and_eq_true, inR, decide_eq_true_eq] at h2
        omega
      go_wp2_with fail
      refine (l3room_any _ _ N _ _ k b wy _ hk (by omega) (by omega) (HP.out.later hb)).mono ?_
      rintro e w1 ⟨rfl, hb1'⟩
      have HDB1 := hide (HDB.out.later hb1')
      have HOW1 := hide (owns_later' HOW.out hb1')
      clear HDB HOW n0 n1 r0 r1 r2 r3 r4 r5 rf0 rf1 rf2 rf3 rf4 rf5 o0 o1 o2 o3 o4 o5 of0 of1 of2 of3 of4 of5 hb hz0 hz3 hb1'
      obtain ⟨n0, n1, ⟨r0, r1, r2, r3, r4, r5, rf0, rf1, rf2, rf3, rf4, rf5⟩, ⟨o0, o1, o2, o3, o4, o5, of0, of1, of2, of3, of4, of5⟩, hb⟩ := HDB1.out
      have hz0 := cell_lt n0
      have hz3 := cell_lt o0
      by_cases hrm : roomP N k b wy = 0
      · have qr : (roomP N k b wy == 0) = true := by rw [beq_iff_eq]; exact hrm
        have hhd := headP_ok HSPq.out
        obtain ⟨hx, hy, hh⟩ : ∃ hx hy, headP k wy = (hx, hy) := ⟨_, _, rfl⟩
        rw [hh] at hhd
        have HHD := hide hhd
        have HH := hide hh
        clear hhd hh
        have HRM := hide hrm
        clear hrm
        go_wp2_with fail
        have hsz1 : (w1.drew).heap.size = w1.heap.size := rfl
        go_region_held3 (fun w' => DS w w' (.slice a N.pcs.length cap) (.slice a' N.jts.length cap') f k b wy)
          (first
            | (exact dbS (HDB1.out.later ((Below.refl _ _).drew)))
            | (exact keepD (by assumption) (by assumption))
            | (exact keepD ((Below.refl _ _).alloc (Nat.le_refl _) _) (by assumption))
            | (exact dbS (HDO.out.later ((Below.refl _ _).alloc (Nat.le_refl _) _)))
            | (exact dbS (((heldD (by assumption)).set (by first | omega | (simp; omega)) _).set (by first | omega | (simp; omega)) _)))
          (first
            | (go_at_call 38; refine (l3head_at HH.out _).mono ?_; rintro e wh ⟨rfl, hbh⟩; have hszh := hbh.size; try (have y0 : wh.cell? ⟨w1.heap.size, 0, none⟩ = some (.int .i64 0) := box_cell_d hbh 0 _ rfl; have y1 : wh.cell? ⟨w1.heap.size, 1, none⟩ = some (.int .i64 0) := box_cell_d hbh 1 _ rfl; have g0 : wh.frozen? ⟨w1.heap.size, 0, none⟩ = false := box_frozen_d hbh 0; have g1 : wh.frozen? ⟨w1.heap.size, 1, none⟩ = false := box_frozen_d hbh 1))
            | (go_at_call 37; refine (l3over_any _ _ _ N _ _ _ xs hx hy _ hl HM.out HRT.out HHD.out HLI.out (HJ.out.later (heldD (by assumption)).below) (HZ.out.later (heldD (by assumption)).below)).mono ?_; rintro e wo ⟨j, i, hjl, hxl, hat, rfl, hbo⟩; have hszo := hbo.size; have HDO : Hid (DB w wo (.slice a N.pcs.length cap) (.slice a' N.jts.length cap') f k b wy) := DB.later (heldD (by assumption)) hbo; first | (have y0 : wo.cell? ⟨wh.heap.size, 0, none⟩ = some (.int .i64 0) := box_cell hbo 0 _ rfl; have y1 : wo.cell? ⟨wh.heap.size, 1, none⟩ = some (.int .i64 0) := box_cell hbo 1 _ rfl; have g0 : wo.frozen? ⟨wh.heap.size, 0, none⟩ = false := box_frozen hbo 0; have g1 : wo.frozen? ⟨wh.heap.size, 1, none⟩ = false := box_frozen hbo 1) | (have g0 := frozen_later hbo y0 g0; have g1 := frozen_later hbo y1 g1; have y0 := cell_later' hbo y0; have y1 := cell_later' hbo y1) | skip))
        focus
          have hB1o : Below w1.heap.size w1 wo := ((Below.refl w1.heap.size w1).drew.trans hbh).trans (hbo.mono hszh)
          have hs1o := hB1o.size
          obtain ⟨wq, hwq⟩ : ∃ wq, wo.alloc (.cells #[(.int .i64 (overP N.jts[j] (hx, hy) i xs[j]).1.1), (.int .i64 (overP N.jts[j] (hx, hy) i xs[j]).1.2)] 59) = wq := ⟨_, rfl⟩
          have hBq : Below w1.heap.size w1 wq := by rw [← hwq]; exact hB1o.alloc hB1o.size _
          have z0 : wq.cell? ⟨wo.heap.size, 0, none⟩ = some (.int .i64 (overP N.jts[j] (hx, hy) i xs[j]).1.1) := by rw [← hwq]; exact new_cell _ _ _ 0 _ rfl
          have z1 : wq.cell? ⟨wo.heap.size, 1, none⟩ = some (.int .i64 (overP N.jts[j] (hx, hy) i xs[j]).1.2) := by rw [← hwq]; exact new_cell _ _ _ 1 _ rfl
          rw [hwq]
          generalize wo.heap.size = bb at z0 z1 ⊢
          have HBQ := hide hBq
          clear hwq hBq hB1o hs1o
        rotate_left
        focus
          have hB1o : Below w1.heap.size w1 wo := ((Below.refl w1.heap.size w1).drew.trans hbh).trans (((Below.refl wh.heap.size wh).alloc (Nat.le_refl _) _ |>.trans (hbo.mono (by simp))).mono hszh)
          have hszh' : w1.heap.size ≤ wh.heap.size := hszh
          have hs1o := hB1o.size
          obtain ⟨wq, hwq⟩ : ∃ wq, (wo.setCell ⟨wh.heap.size, 0, none⟩ (.int .i64 (overP N.jts[j] (hx, hy) i xs[j]).1.1)).setCell ⟨wh.heap.size, 1, none⟩ (.int .i64 (overP N.jts[j] (hx, hy) i xs[j]).1.2) = wq := ⟨_, rfl⟩
          have hBq : Below w1.heap.size w1 wq := by rw [← hwq]; exact (hB1o.setCell (by show w1.heap.size ≤ wh.heap.size; omega) _).setCell (by show w1.heap.size ≤ wh.heap.size; omega) _
          have z0 : wq.cell? ⟨wh.heap.size, 0, none⟩ = some (.int .i64 (overP N.jts[j] (hx, hy) i xs[j]).1.1) := by rw [← hwq]; simp [go_sem, y0]
          have z1 : wq.cell? ⟨wh.heap.size, 1, none⟩ = some (.int .i64 (overP N.jts[j] (hx, hy) i xs[j]).1.2) := by rw [← hwq]; simp [go_sem, y1]
          rw [hwq]
          generalize wh.heap.size = bb at z0 z1 ⊢
          have HBQ := hide hBq
          clear hwq hBq hB1o hs1o
        rotate_left
        focus
          have hB1h : Below w1.heap.size w1 wh := ((Below.refl w1.heap.size w1).alloc (Nat.le_refl _) _).drew.trans (hbh.mono (by show w1.heap.size ≤ (w1.alloc _).heap.size; simp))
          have hB1o : Below w1.heap.size w1 wo := hB1h.trans (hbo.mono hB1h.size)
          clear hB1h
          have hs1o := hB1o.size
          obtain ⟨wq, hwq⟩ : ∃ wq, (wo.setCell ⟨w1.heap.size, 0, none⟩ (.int .i64 (overP N.jts[j] (hx, hy) i xs[j]).1.1)).setCell ⟨w1.heap.size, 1, none⟩ (.int .i64 (overP N.jts[j] (hx, hy) i xs[j]).1.2) = wq := ⟨_, rfl⟩
          have hBq : Below w1.heap.size w1 wq := by rw [← hwq]; exact (hB1o.setCell (by show w1.heap.size ≤ w1.heap.size; omega) _).setCell (by show w1.heap.size ≤ w1.heap.size; omega) _
          have z0 : wq.cell? ⟨w1.heap.size, 0, none⟩ = some (.int .i64 (overP N.jts[j] (hx, hy) i xs[j]).1.1) := by rw [← hwq]; simp [go_sem, y0]
          have z1 : wq.cell? ⟨w1.heap.size, 1, none⟩ = some (.int .i64 (overP N.jts[j] (hx, hy) i xs[j]).1.2) := by rw [← hwq]; simp [go_sem, y1]
          rw [hwq]
          generalize w1.heap.size = bb at z0 z1 ⊢
          have HBQ := hide hBq
          clear hwq hBq hB1o hs1o
        rotate_left
        all_goals
          have HDQ := hide (HDB1.out.later HBQ.out)
          have HOQ := hide (owns_later' HOW1.out HBQ.out)
          have HAT := hide hat
          clear hat
          clear n0 n1 r0 r1 r2 r3 r4 r5 rf0 rf1 rf2 rf3 rf4 rf5 o0 o1 o2 o3 o4 o5 of0 of1 of2 of3 of4 of5 hb hz0 hz3
          obtain ⟨n0, n1, ⟨r0, r1, r2, r3, r4, r5, rf0, rf1, rf2, rf3, rf4, rf5⟩, ⟨o0, o1, o2, o3, o4, o5, of0, of1, of2, of3, of4, of5⟩, hb⟩ := HDQ.out
          have hz0 := cell_lt n0
          have hz2 := cell_lt r0
          have hz3 := cell_lt o0
          have hE0 : overP N.jts[j] (headP k wy) i xs[j] = overP N.jts[j] (hx, hy) i xs[j] := by rw [HH.out]
          have HEOK := hide (fun h0 => overP_ok HRT.out HLI.out hjl hxl HAT.out h0)
          generalize hE : overP N.jts[j] (hx, hy) i xs[j] = E at z0 z1 hE0 HEOK ⊢
          have HE := hide hE0
          clear hE hE0
          obtain ⟨⟨e1, e2⟩, cd⟩ := E
          dsimp only at z0 z1 HEOK ⊢
          by_cases hc : cd = 0
          · subst hc
            by_cases hov2 : ov = 1000
            · have qo : ((ov : Int) == 1000) = true := by rw [beq_iff_eq]; omega
              have HV := hide (DriveR.many (ps := ps) hjl hxl hlt HRM.out (by rw [HH.out]; exact HAT.out) (by rw [HE.out]) hov2)
              clear hov2
              go_wp2_with fail
              exact bodyPost_ret (v := .tuple #[.agg #[.int .i64 5, .int .i64 f, .int .i64 j, .int .i64 k, .int .i64 b, .int .i64 wy], u11]) (by simp [results, Try.results23, go_sem, r0, r1, r2, r3, r4, r5]) rfl ⟨⟨5, f, j, k, b, wy, ps⟩, HREL.out _ HV.out, (by show ps.length ≤ 1000000; omega), u11, rfl, (out6 (out8 HOQ.out hb 0 2 _ _).1 (out8 HOQ.out hb 0 2 _ _).2 _ _ _ _ _ _).1, (out6 (out8 HOQ.out hb 0 2 _ _).1 (out8 HOQ.out hb 0 2 _ _).2 _ _ _ _ _ _).2⟩
            · have qo : ((ov : Int) == 1000) = false := by rw [beq_eq_false_iff_ne]; omega
              have hek := HEOK.out rfl
              have HES := hide (enterP_ok HRT.out hek)
              simp only [endOk, inR, Bool.and_eq_true, decide_eq_true_eq] at hek
              obtain ⟨⟨he10, he11⟩, he20, he21⟩ := hek
              obtain ⟨ke, rfl⟩ := Int.eq_ofNat_of_zero_le he10
              have hke : ke < N.pcs.length := by omega
              have HNX := hide (fun r (hd : DriveR N xs far f (enterP N (ke, e2)).1 (enterP N (ke, e2)).2.1 (enterP N (ke, e2)).2.2 (ov + 1) ps r) => HREL.out r (DriveR.over hjl hxl hlt HRM.out (by rw [HH.out]; exact HAT.out) (by rw [HE.out]) hov2 (by rw [HE.out]; exact hd)))
              clear HREL
              go_wp2_with fail
              refine (l3enter_any _ _ N _ _ ke e2 _ hke (HP.out.later hb)).mono ?_
              rintro e w5 ⟨rfl, hb5⟩
              have HD5 := hide (HDQ.out.later hb5)
              have HO5 := hide (owns_later' HOQ.out hb5)
              clear n0 n1 r0 r1 r2 r3 r4 r5 rf0 rf1 rf2 rf3 rf4 rf5 o0 o1 o2 o3 o4 o5 of0 of1 of2 of3 of4 of5 hb hz0 hz2 hz3 z0 z1
              obtain ⟨n0, n1, _, ⟨o0, o1, o2, o3, o4, o5, of0, of1, of2, of3, of4, of5⟩, hb⟩ := HD5.out
              generalize enterP N (ke, e2) = en at HES HNX
              obtain ⟨s1, s2, s3⟩ := en
              dsimp only at HES HNX ⊢
              have hlt3 : w.heap.size + 1 + 1 + 1 < w.heap.size + 1 + 1 + 1 + 1 := by omega
              go_wp2_with fail
              refine ⟨⟨f, s1, s2, s3, ov + 1, ps, by go_num, by omega, hf0, hf1, hpl, HES.out, ownsRow_setCell_below (ownsRow_setCell_below (ownsRow_setCell_below HO5.out hlt3 _) hlt3 _) hlt3 _, HD5.out.spot s1 s2 s3, HNX.out⟩, ?_⟩
              rw [farOf_eq (HD5.out.spot s1 s2 s3).out.c1, hfo]
              simp [intOf]
              omega
          · have qc : (cd != 0) = true := by rw [bne_iff_ne]; exact hc
            have HV := hide (DriveR.stop (ps := ps) (ov := ov) hjl hxl hlt HRM.out (by rw [HH.out]; exact HAT.out) (by rw [HE.out]; exact hc))
            clear hc
            rw [HE.out] at HV
            go_wp2_with fail
            exact bodyPost_ret (v := .tuple #[.agg #[.int .i64 cd, .int .i64 f, .int .i64 j, .int .i64 k, .int .i64 b, .int .i64 wy], u11]) (by simp [results, Try.results23, go_sem, r0, r1, r2, r3, r4, r5]) rfl ⟨⟨cd, f, j, k, b, wy, ps⟩, HREL.out _ HV.out, (by show ps.length ≤ 1000000; omega), u11, rfl, (out6 (out8 HOQ.out hb 0 2 _ _).1 (out8 HOQ.out hb 0 2 _ _).2 _ _ _ _ _ _).1, (out6 (out8 HOQ.out hb 0 2 _ _).1 (out8 HOQ.out hb 0 2 _ _).2 _ _ _ _ _ _).2⟩
      · have qr : (roomP N k b wy == 0) = false := by rw [beq_eq_false_iff_ne]; exact hrm
        have hrv : roomP N k b wy = if wy = 1 then N.pcs[k].len - b else b := by unfold roomP; rw [lenAt_nat N k hk]
        have HGO := hide (fun r (hd : DriveR N xs far (f + stepP N far f k b wy) k (b + stepP N far f k b wy * wy) wy ov (ps ++ [partP k b (b + stepP N far f k b wy * wy)]) r) => HREL.out r (DriveR.go hlt hrm hd))
        have HSTP := hide (show stepP N far f k b wy = if roomP N k b wy > far - f then far - f else roomP N k b wy from rfl)
        have hml : ps.length + 1 ≤ maxLen := by unfold maxLen; omega
        have hlt0 := HOW1.out.lt
        have HLT0 := hide hlt0
        have hrp : 0 < roomP N k b wy := by rw [hrv]; rw [hrv] at hrm; split at hrm <;> omega
        clear hrm HREL hlt0
        rcases hwy with rfl | rfl
        · rw [if_pos rfl] at hrv
          generalize roomP N k b 1 = rm at hrv qr HSTP hrp
          have hrv1 : b + rm ≤ N.pcs[k].len ∧ N.pcs[k].len ≤ b + rm := by omega
          clear hrv
          by_cases hgt : rm > far - f
          · rw [if_pos hgt] at HSTP
            go_wp2_with (first
              | (at_builtin; (refine wpList_append_lies _ rfl _ _ _ rfl (w.heap.size + 1 + 1 + 1 + 1) 79 i0 _ 3 24 Try.underlying54 HI.out HZ0.out HZ1.out HZ2.out rfl (by omega) u11 ps.length (partCells ps) rfl ((out8 HOW1.out hb 4 1 _ _).1.alloc _) ⟨w1.heap.size, 0, none⟩ 1 1 [.int .i64 k, .int .i64 _, .int .i64 _] rfl rfl (news_at (by simp)) (by simp [Value.oneCell']) (by omega) hml (by omega) (by simp; omega) _ rfl ?_); intro g2 c2 w2 hown2 hgrow2 _ hlt2))
            have HD2 := hide (((HDB1.out.went (f + (far - f)) (b + (far - f))).later ((Below.refl _ _).alloc (Nat.le_refl _) _)).grown hgrow2 (fun g e => (HLT0.out g e).1))
            have e1 : (ps ++ [partP k b (b + (far - f))]).length = ps.length + 1 := by simp
            have e2 : partCells (ps ++ [partP k b (b + (far - f))]) = partCells ps ++ [.int .i64 k, .int .i64 (b), .int .i64 (b + (far - f))] := by
              have : partP k b (b + (far - f)) = ((k : Int), b, b + (far - f)) := by unfold partP; split <;> first | rfl | (exfalso; omega)
              simp [partCells, this]
            refine ⟨⟨f + (far - f), k, b + (far - f), 1, ov, ps ++ [partP k b (b + (far - f))], rfl, hov, by omega, by omega, by rw [e1]; omega, ?_, ?_, HD2.out, fun r hd => HGO.out r (by rw [HSTP.out]; first | (rw [Int.mul_one]; exact hd) | (rw [Int.mul_neg, Int.mul_one]; exact hd))⟩, ?_⟩
            · show spotP N k (b + (far - f)) 1 = true
              simp only [spotP, inR, Bool.and_eq_true, decide_eq_true_eq, lenAt_nat N k hk]
              exact ⟨⟨⟨by omega, by omega⟩, rfl⟩, by omega, by omega⟩
            · show World.ownsRow _ _ _ _ _ _ _
              rw [e1, e2]
              exact hown2
            · rw [farOf_eq HD2.out.out.c1, hfo]
              omega
          · rw [if_neg hgt] at HSTP
            go_wp2_with (first
              | (at_builtin; (refine wpList_append_lies _ rfl _ _ _ rfl (w.heap.size + 1 + 1 + 1 + 1) 79 i0 _ 3 24 Try.underlying54 HI.out HZ0.out HZ1.out HZ2.out rfl (by omega) u11 ps.length (partCells ps) rfl ((out8 HOW1.out hb 4 1 _ _).1.alloc _) ⟨w1.heap.size, 0, none⟩ 1 1 [.int .i64 k, .int .i64 _, .int .i64 _] rfl rfl (news_at (by simp)) (by simp [Value.oneCell']) (by omega) hml (by omega) (by simp; omega) _ rfl ?_); intro g2 c2 w2 hown2 hgrow2 _ hlt2))
            have HD2 := hide (((HDB1.out.went (f + rm) (b + rm)).later ((Below.refl _ _).alloc (Nat.le_refl _) _)).grown hgrow2 (fun g e => (HLT0.out g e).1))
            have e1 : (ps ++ [partP k b (b + rm)]).length = ps.length + 1 := by simp
            have e2 : partCells (ps ++ [partP k b (b + rm)]) = partCells ps ++ [.int .i64 k, .int .i64 (b), .int .i64 (b + rm)] := by
              have : partP k b (b + rm) = ((k : Int), b, b + rm) := by unfold partP; split <;> first | rfl | (exfalso; omega)
              simp [partCells, this]
            refine ⟨⟨f + rm, k, b + rm, 1, ov, ps ++ [partP k b (b + rm)], rfl, hov, by omega, by omega, by rw [e1]; omega, ?_, ?_, HD2.out, fun r hd => HGO.out r (by rw [HSTP.out]; first | (rw [Int.mul_one]; exact hd) | (rw [Int.mul_neg, Int.mul_one]; exact hd))⟩, ?_⟩
            · show spotP N k (b + rm) 1 = true
              simp only [spotP, inR, Bool.and_eq_true, decide_eq_true_eq, lenAt_nat N k hk]
              exact ⟨⟨⟨by omega, by omega⟩, rfl⟩, by omega, by omega⟩
            · show World.ownsRow _ _ _ _ _ _ _
              rw [e1, e2]
              exact hown2
            · rw [farOf_eq HD2.out.out.c1, hfo]
              omega
        · rw [if_neg (by omega)] at hrv
          generalize roomP N k b (-1) = rm at hrv qr HSTP hrp
          have hrv1 : rm ≤ b ∧ b ≤ rm := by omega
          clear hrv
          by_cases hgt : rm > far - f
          · rw [if_pos hgt] at HSTP
            go_wp2_with (first
              | (at_builtin; (refine wpList_append_lies _ rfl _ _ _ rfl (w.heap.size + 1 + 1 + 1 + 1) 79 i0 _ 3 24 Try.underlying54 HI.out HZ0.out HZ1.out HZ2.out rfl (by omega) u11 ps.length (partCells ps) rfl ((out8 HOW1.out hb 4 1 _ _).1.alloc _) ⟨w1.heap.size, 0, none⟩ 1 1 [.int .i64 k, .int .i64 _, .int .i64 _] rfl rfl (news_at (by simp)) (by simp [Value.oneCell']) (by omega) hml (by omega) (by simp; omega) _ rfl ?_); intro g2 c2 w2 hown2 hgrow2 _ hlt2))
            have HD2 := hide (((HDB1.out.went (f + (far - f)) (b + -(far - f))).later ((Below.refl _ _).alloc (Nat.le_refl _) _)).grown hgrow2 (fun g e => (HLT0.out g e).1))
            have e1 : (ps ++ [partP k b (b + -(far - f))]).length = ps.length + 1 := by simp
            have e2 : partCells (ps ++ [partP k b (b + -(far - f))]) = partCells ps ++ [.int .i64 k, .int .i64 (b + -(far - f)), .int .i64 (b)] := by
              have : partP k b (b + -(far - f)) = ((k : Int), b + -(far - f), b) := by unfold partP; split <;> first | rfl | (exfalso; omega)
              simp [partCells, this]
            refine ⟨⟨f + (far - f), k, b + -(far - f), -1, ov, ps ++ [partP k b (b + -(far - f))], rfl, hov, by omega, by omega, by rw [e1]; omega, ?_, ?_, HD2.out, fun r hd => HGO.out r (by rw [HSTP.out]; first | (rw [Int.mul_one]; exact hd) | (rw [Int.mul_neg, Int.mul_one]; exact hd))⟩, ?_⟩
            · show spotP N k (b + -(far - f)) (-1) = true
              simp only [spotP, inR, Bool.and_eq_true, decide_eq_true_eq, lenAt_nat N k hk]
              exact ⟨⟨⟨by omega, by omega⟩, rfl⟩, by omega, by omega⟩
            · show World.ownsRow _ _ _ _ _ _ _
              rw [e1, e2]
              exact hown2
            · rw [farOf_eq HD2.out.out.c1, hfo]
              omega
          · rw [if_neg hgt] at HSTP
            go_wp2_with (first
              | (at_builtin; (refine wpList_append_lies _ rfl _ _ _ rfl (w.heap.size + 1 + 1 + 1 + 1) 79 i0 _ 3 24 Try.underlying54 HI.out HZ0.out HZ1.out HZ2.out rfl (by omega) u11 ps.length (partCells ps) rfl ((out8 HOW1.out hb 4 1 _ _).1.alloc _) ⟨w1.heap.size, 0, none⟩ 1 1 [.int .i64 k, .int .i64 _, .int .i64 _] rfl rfl (news_at (by simp)) (by simp [Value.oneCell']) (by omega) hml (by omega) (by simp; omega) _ rfl ?_); intro g2 c2 w2 hown2 hgrow2 _ hlt2))
            have HD2 := hide (((HDB1.out.went (f + rm) (b + -rm)).later ((Below.refl _ _).alloc (Nat.le_refl _) _)).grown hgrow2 (fun g e => (HLT0.out g e).1))
            have e1 : (ps ++ [partP k b (b + -rm)]).length = ps.length + 1 := by simp
            have e2 : partCells (ps ++ [partP k b (b + -rm)]) = partCells ps ++ [.int .i64 k, .int .i64 (b + -rm), .int .i64 (b)] := by
              have : partP k b (b + -rm) = ((k : Int), b + -rm, b) := by unfold partP; split <;> first | rfl | (exfalso; omega)
              simp [partCells, this]
            refine ⟨⟨f + rm, k, b + -rm, -1, ov, ps ++ [partP k b (b + -rm)], rfl, hov, by omega, by omega, by rw [e1]; omega, ?_, ?_, HD2.out, fun r hd => HGO.out r (by rw [HSTP.out]; first | (rw [Int.mul_one]; exact hd) | (rw [Int.mul_neg, Int.mul_one]; exact hd))⟩, ?_⟩
            · show spotP N k (b + -rm) (-1) = true
              simp only [spotP, inR, Bool.and_eq_true, decide_eq_true_eq, lenAt_nat N k hk]
              exact ⟨⟨⟨by omega, by omega⟩, rfl⟩, by omega, by omega⟩
            · show World.ownsRow _ _ _ _ _ _ _
              rw [e1, e2]
              exact hown2
            · rw [farOf_eq HD2.out.out.c1, hfo]
              omega
    · have HV := hide (DriveR.done (N := N) (xs := xs) (q := q) (a := b) (wy := wy) (ov := ov) (ps := ps) hlt)
      go_wp2_with fail
      exact bodyPost_ret (v := .tuple #[.agg #[.int .i64 0, .int .i64 f, .int .i64 (-1), .int .i64 q, .int .i64 b, .int .i64 wy], u11]) (by simp [results, Try.results23, go_sem, r0, r1, r2, r3, r4, r5]) rfl ⟨⟨0, f, -1, q, b, wy, ps⟩, HREL.out _ HV.out, (by show ps.length ≤ 1000000; omega), u11, rfl, (out6 HOW.out hb _ _ _ _ _ _).1, (out6 HOW.out hb _ _ _ _ _ _).2⟩
end Go.Proofs.Yteapmddadieohaa
