/- The law FnTop's walk. Own work. -/
import Derived.Test.YtncanhbmbjoamaaGreatMxAK
import Derived.Test.YtncanhbmbjoamaaGreatMxAL
import Derived.Test.YtncanhbmbjoamaaGreatImDr
import Derived.Deep.RegionHeld3
namespace Go.Proofs.YtncanhbmbjoamaaGreat
open Go.RowKit
set_option maxHeartbeats 8000000

/-- Six numbers in a box. -/
abbrev Box6 (w : World) (b : Nat) (r : DRes) : Prop := w.cell? ⟨b, 0, none⟩ = some (.int .i64 r.code) ∧ w.cell? ⟨b, 1, none⟩ = some (.int .i64 r.far) ∧ w.cell? ⟨b, 2, none⟩ = some (.int .i64 r.joint) ∧ w.cell? ⟨b, 3, none⟩ = some (.int .i64 r.q) ∧ w.cell? ⟨b, 4, none⟩ = some (.int .i64 r.at') ∧ w.cell? ⟨b, 5, none⟩ = some (.int .i64 r.way)
theorem Box6.later {w w' : World} {b : Nat} {r : DRes} (h : Box6 w b r) (hb : Below w.heap.size w w') : Box6 w' b r := ⟨cell_later' hb h.1, cell_later' hb h.2.1, cell_later' hb h.2.2.1, cell_later' hb h.2.2.2.1, cell_later' hb h.2.2.2.2.1, cell_later' hb h.2.2.2.2.2⟩
theorem box6_new (w : World) (T : TypeId) (r : DRes) : Box6 (w.alloc (.cells #[.int .i64 r.code, .int .i64 r.far, .int .i64 r.joint, .int .i64 r.q, .int .i64 r.at', .int .i64 r.way] T)) w.heap.size r :=
  ⟨new_cell w _ _ 0 _ rfl, new_cell w _ _ 1 _ rfl, new_cell w _ _ 2 _ rfl, new_cell w _ _ 3 _ rfl, new_cell w _ _ 4 _ rfl, new_cell w _ _ 5 _ rfl⟩
abbrev Box2 (w : World) (b : Nat) (v0 v1 : Value) : Prop := w.cell? ⟨b, 0, none⟩ = some v0 ∧ w.cell? ⟨b, 1, none⟩ = some v1
theorem Box2.later {w w' : World} {b : Nat} {v0 v1 : Value} (h : Box2 w b v0 v1) (hb : Below w.heap.size w w') : Box2 w' b v0 v1 := ⟨cell_later' hb h.1, cell_later' hb h.2⟩
abbrev Box3 (w : World) (b : Nat) (x y z : Int) : Prop := w.cell? ⟨b, 0, none⟩ = some (.int .i64 x) ∧ w.cell? ⟨b, 1, none⟩ = some (.int .i64 y) ∧ w.cell? ⟨b, 2, none⟩ = some (.int .i64 z)
theorem Box3.later {w w' : World} {b : Nat} {x y z : Int} (h : Box3 w b x y z) (hb : Below w.heap.size w w') : Box3 w' b x y z := ⟨cell_later' hb h.1, cell_later' hb h.2.1, cell_later' hb h.2.2⟩

/-- The boxes of FnTop where it holds its drive against the model's. -/
abbrev TpS (w8 wx : World) (bn bm bs bx : Nat) (v0 v1 u0 u1 : Value) (q at' wy : Int) (r : DRes) : Prop := (Box2 wx bn v0 v1 ∧ Box2 wx bm u0 u1 ∧ Box3 wx bs q at' wy ∧ Box6 wx bx r) ∧ Hid (Below w8.heap.size w8 wx)
theorem keepTp {w8 w2 w3 : World} {bn bm bs bx : Nat} {v0 v1 u0 u1 : Value} {q at' wy : Int} {r : DRes} (hb : Below w2.heap.size w2 w3) (h : TpS w8 w2 bn bm bs bx v0 v1 u0 u1 q at' wy r) : TpS w8 w3 bn bm bs bx v0 v1 u0 u1 q at' wy r :=
  ⟨⟨h.1.1.later hb, h.1.2.1.later hb, h.1.2.2.1.later hb, h.1.2.2.2.later hb⟩, h.2.out.trans (hb.mono h.2.out.size)⟩

theorem lenAt_le {N : Nt} (h : NetBd N) (q : Int) : 0 ≤ lenAt N q ∧ lenAt N q ≤ 300 := by
  unfold lenAt
  split
  · rename_i p hp
    have := h.lens p (List.mem_of_getElem? hp)
    omega
  · omega

end Go.Proofs.YtncanhbmbjoamaaGreat
