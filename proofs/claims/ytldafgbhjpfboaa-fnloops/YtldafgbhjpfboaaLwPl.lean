/- The law FnExactPathLies' walk. Own work. -/
import Derived.Test.YtldafgbhjpfboaaMxAK
import Derived.Test.YtldafgbhjpfboaaMxAQ
import Derived.Test.YtldafgbhjpfboaaMxAP
import Derived.Test.YtldafgbhjpfboaaMxAC
namespace Go.Proofs.Ytldafgbhjpfboaa
open Go.RowKit
set_option maxHeartbeats 8000000

theorem EndsAt.midL {B C : Nat} {w w' : World} {z : Option Addr} {ps : List (Int × Int)} (h : EndsAt w z ps) (hm : Mid B C w w') (hz : ∀ b off, z = some ⟨b, off, none⟩ → ps.length = 0 ∨ b < B ∨ C ≤ b) : EndsAt w' z ps := by
  intro k hk
  obtain ⟨b, off, ha, h1, h2⟩ := h k hk
  have hb' : b < B ∨ C ≤ b := by rcases hz b off ha with h | h <;> omega
  exact ⟨b, off, ha, hm.cell hb' h1, hm.cell hb' h2⟩
theorem markedL {w w' : World} {a : Option Addr} {n : Nat} {k : Int} (h : Marked w a n k) (hb : Below w.heap.size w w') : Marked w' a n k := by
  intro i hi
  obtain ⟨b, ha, h1, h2⟩ := h i hi
  exact ⟨b, ha, cell_later' hb h1, cell_later' hb h2⟩
/-- The box of the net that came in and the box of the net that was handed over. -/
abbrev LY2 (w wx : World) (v0 v1 : Value) (b : Nat) (u0 u1 : Value) (wb : World) : Prop := (LY w wx v0 v1 ∧ wx.cell? ⟨b, 0, none⟩ = some u0 ∧ wx.cell? ⟨b, 1, none⟩ = some u1) ∧ Hid (Below wb.heap.size wb wx)
theorem keepY2 {w w2 w3 wb : World} {v0 v1 : Value} {b : Nat} {u0 u1 : Value} (hb : Below w2.heap.size w2 w3) (h : LY2 w w2 v0 v1 b u0 u1 wb) : LY2 w w3 v0 v1 b u0 u1 wb :=
  ⟨⟨keepY hb h.1.1, cell_later' hb h.1.2.1, cell_later' hb h.1.2.2⟩, h.2.out.trans (hb.mono h.2.out.size)⟩
theorem LY.mid {B C : Nat} {w w1 w2 : World} {v0 v1 : Value} (h : LY w w1 v0 v1) (hm : Mid B C w1 w2) (hB : w.heap.size < B) (hw : B ≤ w1.heap.size) : LY w w2 v0 v1 :=
  ⟨⟨hm.cell (.inl (by omega)) h.1.1, hm.cell (.inl (by omega)) h.1.2⟩, h.2.out.trans ((hm.below hw).mono (by omega))⟩

end Go.Proofs.Ytldafgbhjpfboaa
