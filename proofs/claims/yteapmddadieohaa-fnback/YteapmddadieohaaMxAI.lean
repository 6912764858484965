import Derived.Test.YteapmddadieohaaTo
import Derived.Deep.RegionWith
import Derived.Deep.RegionHeld3
import Derived.Deep.DeepCutAuto
namespace Go.Proofs.Yteapmddadieohaa
open Go.RowKit
set_option maxHeartbeats 2000000

end Go.Proofs.Yteapmddadieohaa

namespace Go.Proofs.Yteapmddadieohaa
open Go.RowKit
set_option maxHeartbeats 400000

end Go.Proofs.Yteapmddadieohaa

/- What the laws' walks of chapter 3 have in common. Own work. -/
namespace Go.Proofs.Yteapmddadieohaa
open Go.RowKit
set_option maxHeartbeats 2000000

theorem chn {a b c : World} (h : Below a.heap.size a b) (k : Below b.heap.size b c) : Below a.heap.size a c := h.trans (k.mono h.size)

def Wf3 (q at' way : Int) : Prop := (Lit.int .i64 q).wf = true ∧ (Lit.int .i64 at').wf = true ∧ (Lit.int .i64 way).wf = true

/-- The law's two boxes, and what has come since. -/
abbrev LS (w w1 w' : World) (v0 v1 : Value) (q at' way : Int) : Prop :=
  (w'.cell? ⟨w.heap.size, 0, none⟩ = some v0 ∧ w'.cell? ⟨w.heap.size, 1, none⟩ = some v1 ∧ w'.cell? ⟨w.heap.size + 1, 0, none⟩ = some (.int .i64 q) ∧ w'.cell? ⟨w.heap.size + 1, 1, none⟩ = some (.int .i64 at') ∧ w'.cell? ⟨w.heap.size + 1, 2, none⟩ = some (.int .i64 way)) ∧ Hid (Below w1.heap.size w1 w')
theorem keepL {w w1 w2 w3 : World} {v0 v1 : Value} {q at' way : Int} (hb : Below w2.heap.size w2 w3) (h : LS w w1 w2 v0 v1 q at' way) : LS w w1 w3 v0 v1 q at' way :=
  ⟨⟨cell_later' hb h.1.1, cell_later' hb h.1.2.1, cell_later' hb h.1.2.2.1, cell_later' hb h.1.2.2.2.1, cell_later' hb h.1.2.2.2.2⟩, h.2.out.trans (hb.mono h.2.out.size)⟩
theorem heldB {p : Prop} {w1 w' : World} (h : p ∧ Hid (Below w1.heap.size w1 w')) : Below w1.heap.size w1 w' := h.2
/-- And a box with a net. -/
abbrev LS2 (w w1 w' : World) (v0 v1 : Value) (q at' way : Int) (b : Nat) (u0 u1 : Value) : Prop := LS w w1 w' v0 v1 q at' way ∧ w'.cell? ⟨b, 0, none⟩ = some u0 ∧ w'.cell? ⟨b, 1, none⟩ = some u1
theorem keepL2 {w w1 w2 w3 : World} {v0 v1 u0 u1 : Value} {q at' way : Int} {b : Nat} (hb : Below w2.heap.size w2 w3) (h : LS2 w w1 w2 v0 v1 q at' way b u0 u1) : LS2 w w1 w3 v0 v1 q at' way b u0 u1 :=
  ⟨keepL hb h.1, cell_later' hb h.2.1, cell_later' hb h.2.2⟩
end Go.Proofs.Yteapmddadieohaa
