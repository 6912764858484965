/- through, asItLies. Own work. -/
import Derived.Test.YtldafgbhjpfboaaMxAL
import Derived.Test.YtldafgbhjpfboaaMxAC
import Derived.Deep.RegionHeld3
import Derived.Deep.RegionWith
import Derived.Deep.QuietTactic
import Derived.BigQuiet
namespace Go.Proofs.Ytldafgbhjpfboaa
open Go.RowKit
set_option maxHeartbeats 4000000

/-- What a walk over a joint holds on to: the cursor's joints, the joint, the box of the seat. -/
abbrev TS (w wx : World) (B : Nat) (sj : Value) (jb jo : Nat) (kd : Int) (nm : ByteArray) (es : Value) (x y z : Int) : Prop :=
  (wx.cell? ⟨B, 4, none⟩ = some sj ∧ wx.cell? ⟨jb, jo, none⟩ = some (.int .i64 kd) ∧ wx.cell? ⟨jb, jo + 1, none⟩ = some (.string nm) ∧ wx.cell? ⟨jb, jo + 2, none⟩ = some es ∧ wx.cell? ⟨w.heap.size, 0, none⟩ = some (.int .i64 x) ∧ wx.cell? ⟨w.heap.size, 1, none⟩ = some (.int .i64 y) ∧ wx.cell? ⟨w.heap.size, 2, none⟩ = some (.int .i64 z)) ∧ Hid (Below w.heap.size w wx)
theorem keepT {w w2 w3 : World} {B : Nat} {sj : Value} {jb jo : Nat} {kd : Int} {nm : ByteArray} {es : Value} {x y z : Int} (hb : Below w2.heap.size w2 w3) (h : TS w w2 B sj jb jo kd nm es x y z) : TS w w3 B sj jb jo kd nm es x y z :=
  ⟨⟨cell_later' hb h.1.1, cell_later' hb h.1.2.1, cell_later' hb h.1.2.2.1, cell_later' hb h.1.2.2.2.1, cell_later' hb h.1.2.2.2.2.1, cell_later' hb h.1.2.2.2.2.2.1, cell_later' hb h.1.2.2.2.2.2.2⟩, h.2.out.trans (hb.mono h.2.out.size)⟩
theorem keepT2 {w w2 : World} {B : Nat} {sj : Value} {jb jo : Nat} {kd : Int} {nm : ByteArray} {es : Value} {x y z : Int} (h : TS w w2 B sj jb jo kd nm es x y z) (hB : B < w.heap.size) (hj : jb < w.heap.size) (v v' : Value) :
    TS w ((w2.setCell ⟨w.heap.size + 1, 0, none⟩ v).setCell ⟨w.heap.size + 1, 1, none⟩ v') B sj jb jo kd nm es x y z := by
  have e : ∀ (W : World) (o : Nat) (v : Value) (b i : Nat) (u : Value), b < w.heap.size + 1 → W.cell? ⟨b, i, none⟩ = some u → (W.setCell ⟨w.heap.size + 1, o, none⟩ v).cell? ⟨b, i, none⟩ = some u := fun W o v b i u hb hu => by
    rw [World.cell?_setCell_far W ⟨w.heap.size + 1, o, none⟩ ⟨b, i, none⟩ v (by show w.heap.size + 1 ≠ b; omega)]; exact hu
  exact ⟨⟨e _ _ _ _ _ _ (by omega) (e _ _ _ _ _ _ (by omega) h.1.1), e _ _ _ _ _ _ (by omega) (e _ _ _ _ _ _ (by omega) h.1.2.1), e _ _ _ _ _ _ (by omega) (e _ _ _ _ _ _ (by omega) h.1.2.2.1), e _ _ _ _ _ _ (by omega) (e _ _ _ _ _ _ (by omega) h.1.2.2.2.1), e _ _ _ _ _ _ (by omega) (e _ _ _ _ _ _ (by omega) h.1.2.2.2.2.1), e _ _ _ _ _ _ (by omega) (e _ _ _ _ _ _ (by omega) h.1.2.2.2.2.2.1), e _ _ _ _ _ _ (by omega) (e _ _ _ _ _ _ (by omega) h.1.2.2.2.2.2.2)⟩, (h.2.out.setCell (by show w.heap.size ≤ w.heap.size + 1; omega) _).setCell (by show w.heap.size ≤ w.heap.size + 1; omega) _⟩

end Go.Proofs.Ytldafgbhjpfboaa

/- asItLies from the tip of a switch that lies 1. Own work. -/
namespace Go.Proofs.Ytldafgbhjpfboaa
open Go.RowKit
set_option maxHeartbeats 4000000

end Go.Proofs.Ytldafgbhjpfboaa

/- asItLies from the tip of a switch that lies 2. Own work. -/
namespace Go.Proofs.Ytldafgbhjpfboaa
open Go.RowKit
set_option maxHeartbeats 4000000

end Go.Proofs.Ytldafgbhjpfboaa
