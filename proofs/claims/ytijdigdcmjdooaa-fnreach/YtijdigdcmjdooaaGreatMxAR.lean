/- spec.PathLies. Own work. -/
import Derived.Test.YtijdigdcmjdooaaGreatWsB
import Derived.Test.YtijdigdcmjdooaaGreatMxAC
import Derived.Test.YtijdigdcmjdooaaGreatMxAP
import Derived.Test.YtijdigdcmjdooaaGreatMxAQ
import Derived.Test.YtijdigdcmjdooaaGreatMxAF
import Derived.Test.YtijdigdcmjdooaaGreatMxAB
namespace Go.Proofs.YtijdigdcmjdooaaGreat
open Go.RowKit
set_option maxHeartbeats 4000000

end Go.Proofs.YtijdigdcmjdooaaGreat

/- The law FnExactPathLies' walk. Own work. -/
namespace Go.Proofs.YtijdigdcmjdooaaGreat
open Go.RowKit
set_option maxHeartbeats 8000000

/-- A list of lies that a call has made from block B on, or none. -/
def NewL (B : Nat) (w : World) (z : Option Addr) (ps : List (Int × Int)) : Prop :=
  EndsAt w z ps ∧ (ps.length = 0 ∨ ∃ b m, B ≤ b ∧ b < w.heap.size ∧ z = some ⟨b, 0, none⟩ ∧ ps.length * 2 ≤ m ∧ Row w b 177 m)
theorem newL {w : World} {base : Nat} {v : Value} {ps : List (Int × Int)} (h : w.ownsRow base 177 2 v ps.length (lieCells ps)) : ∃ z zc, v = .slice z ps.length zc ∧ NewL base w z ps := by
  rcases lies_of_owns h with ⟨rfl, rfl⟩ | ⟨b, cap, rfl, hb, hn, hP, hR⟩
  · exact ⟨none, 0, rfl, fun k hk => by simp at hk, .inl rfl⟩
  · exact ⟨_, cap, rfl, hP, .inr ⟨b, cap * 2, hb, by obtain ⟨f, hf⟩ := hR; exact hf.lt, rfl, by omega, hR⟩⟩
theorem NewL.later {B : Nat} {w w' : World} {z : Option Addr} {ps : List (Int × Int)} (h : NewL B w z ps) (hb : Below w.heap.size w w') : NewL B w' z ps := by
  refine ⟨h.1.later hb, ?_⟩
  rcases h.2 with h | ⟨b, m, h1, h2, h3, h4, h5⟩
  · exact .inl h
  · exact .inr ⟨b, m, h1, Nat.lt_of_lt_of_le h2 hb.size, h3, h4, h5.later hb⟩
theorem EndsAt.midL {B C : Nat} {w w' : World} {z : Option Addr} {ps : List (Int × Int)} (h : EndsAt w z ps) (hm : Mid B C w w') (hz : ∀ b off, z = some ⟨b, off, none⟩ → ps.length = 0 ∨ b < B ∨ C ≤ b) : EndsAt w' z ps := by
  intro k hk
  obtain ⟨b, off, ha, h1, h2⟩ := h k hk
  have hb' : b < B ∨ C ≤ b := by rcases hz b off ha with h | h <;> omega
  exact ⟨b, off, ha, hm.cell hb' h1, hm.cell hb' h2⟩
theorem NewL.lt {B : Nat} {w : World} {z : Option Addr} {ps : List (Int × Int)} (h : NewL B w z ps) : ∀ b off, z = some ⟨b, off, none⟩ → ps.length = 0 ∨ (B ≤ b ∧ b < w.heap.size) := by
  intro b off hab
  rcases h.2 with h | ⟨b', m, h1, h2, h3, _⟩
  · exact .inl h
  · rw [h3] at hab
    obtain ⟨rfl, rfl⟩ : b' = b ∧ 0 = off := by simpa using hab
    exact .inr ⟨h1, h2⟩
theorem NewL.mid {B0 B C : Nat} {w w' : World} {z : Option Addr} {ps : List (Int × Int)} (h : NewL B0 w z ps) (hm : Mid B C w w') (hz : ∀ b, z = some ⟨b, 0, none⟩ → b < w.heap.size → B0 ≤ b → (b < B ∨ C ≤ b)) : NewL B0 w' z ps := by
  rcases h.2 with h0 | ⟨b, m, h1, h2, rfl, h4, h5⟩
  · exact ⟨fun k hk => by omega, .inl h0⟩
  · have hb := hz b rfl h2 h1
    refine ⟨fun k hk => ?_, .inr ⟨b, m, h1, Nat.lt_of_lt_of_le h2 hm.size, rfl, h4, hm.row hb h5⟩⟩
    obtain ⟨b', off, e, c0, c1⟩ := h.1 k hk
    obtain ⟨rfl, rfl⟩ : b = b' ∧ 0 = off := by simpa using e
    exact ⟨b, 0, rfl, hm.cell hb c0, hm.cell hb c1⟩
theorem markedL {w w' : World} {a : Option Addr} {n : Nat} {k : Int} (h : Marked w a n k) (hb : Below w.heap.size w w') : Marked w' a n k := by
  intro i hi
  obtain ⟨b, ha, h1, h2⟩ := h i hi
  exact ⟨b, ha, cell_later' hb h1, cell_later' hb h2⟩
/-- The box of the net that came in and the box of the net that was handed over. -/
abbrev LY2 (w wx : World) (v0 v1 : Value) (b : Nat) (u0 u1 : Value) (wb : World) : Prop := (LY w wx v0 v1 ∧ wx.cell? ⟨b, 0, none⟩ = some u0 ∧ wx.cell? ⟨b, 1, none⟩ = some u1) ∧ Hid (Below wb.heap.size wb wx)
theorem keepY2 {w w2 w3 wb : World} {v0 v1 : Value} {b : Nat} {u0 u1 : Value} (hb : Below w2.heap.size w2 w3) (h : LY2 w w2 v0 v1 b u0 u1 wb) : LY2 w w3 v0 v1 b u0 u1 wb :=
  ⟨⟨keepY hb h.1.1, cell_later' hb h.1.2.1, cell_later' hb h.1.2.2⟩, h.2.out.trans (hb.mono h.2.out.size)⟩
theorem LY.mid {B C : Nat} {w w1 w2 : World} {v0 v1 : Value} (h : LY w w1 v0 v1) (hm : Mid B C w1 w2) (hB : w.heap.size < B) (hw : B ≤ w1.heap.size) : LY w w2 v0 v1 :=
  ⟨⟨hm.cell (.inl (by omega)) h.1.1, hm.cell (.inl (by omega)) h.1.2⟩, h.2.out.trans ((hm.below hw).mono (by omega))⟩

end Go.Proofs.YtijdigdcmjdooaaGreat
