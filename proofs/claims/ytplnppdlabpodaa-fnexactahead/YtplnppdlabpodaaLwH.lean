/- Lists of parts that a call has made. Own work. -/
import Derived.Test.YtplnppdlabpodaaMxAA
import Derived.Test.YtplnppdlabpodaaMxAE
import Derived.Test.YtplnppdlabpodaaMkC
namespace Go.Proofs.Ytplnppdlabpodaa
open Go.RowKit
set_option maxHeartbeats 8000000

/-- A list of parts that a call has made from block B on, or none. -/
def NewParts (B : Nat) (w : World) (z : Option Addr) (ps : List (Int × Int × Int)) : Prop :=
  PartsAt w z ps ∧ (ps.length = 0 ∨ ∃ b m, B ≤ b ∧ b < w.heap.size ∧ z = some ⟨b, 0, none⟩ ∧ ps.length * 3 ≤ m ∧ Row w b 119 m)
theorem newParts {w : World} {base : Nat} {v : Value} {ps : List (Int × Int × Int)} (h : w.ownsRow base 119 3 v ps.length (partCells ps)) : ∃ z zc, v = .slice z ps.length zc ∧ NewParts base w z ps := by
  rcases parts_of_owns h with ⟨rfl, rfl⟩ | ⟨b, cap, rfl, hb, hn, hP, hR⟩
  · exact ⟨none, 0, rfl, fun k hk => by simp at hk, .inl rfl⟩
  · exact ⟨_, cap, rfl, hP, .inr ⟨b, cap * 3, hb, by obtain ⟨f, hf⟩ := hR; exact hf.lt, rfl, by omega, hR⟩⟩
theorem NewParts.later {B : Nat} {w w' : World} {z : Option Addr} {ps : List (Int × Int × Int)} (h : NewParts B w z ps) (hb : Below w.heap.size w w') : NewParts B w' z ps := by
  refine ⟨h.1.later hb, ?_⟩
  rcases h.2 with h | ⟨b, m, h1, h2, h3, h4, h5⟩
  · exact .inl h
  · exact .inr ⟨b, m, h1, Nat.lt_of_lt_of_le h2 hb.size, h3, h4, h5.later hb⟩
/-- Only blocks from B to below C have turned; the list lies elsewhere. -/
theorem NewParts.mid {B0 B C : Nat} {w w' : World} {z : Option Addr} {ps : List (Int × Int × Int)} (h : NewParts B0 w z ps) (hm : Mid B C w w') (hz : ∀ b, z = some ⟨b, 0, none⟩ → b < w.heap.size → B0 ≤ b → (b < B ∨ C ≤ b)) : NewParts B0 w' z ps := by
  rcases h.2 with h0 | ⟨b, m, h1, h2, rfl, h4, h5⟩
  · exact ⟨fun k hk => by omega, .inl h0⟩
  · have hb := hz b rfl h2 h1
    refine ⟨fun k hk => ?_, .inr ⟨b, m, h1, Nat.lt_of_lt_of_le h2 hm.size, rfl, h4, hm.row hb h5⟩⟩
    obtain ⟨b', off, e, c0, c1, c2⟩ := h.1 k hk
    obtain ⟨rfl, rfl⟩ : b = b' ∧ 0 = off := by simpa using e
    exact ⟨b, 0, rfl, hm.cell hb c0, hm.cell hb c1, hm.cell hb c2⟩

theorem PartsAt.mid {B C : Nat} {w w' : World} {z : Option Addr} {ps : List (Int × Int × Int)} (h : PartsAt w z ps) (hm : Mid B C w w') (hz : ∀ b off, z = some ⟨b, off, none⟩ → ps.length = 0 ∨ b < B ∨ C ≤ b) : PartsAt w' z ps := by
  intro k hk
  obtain ⟨b, off, ha, h1, h2, h3⟩ := h k hk
  have hb' : b < B ∨ C ≤ b := by rcases hz b off ha with h | h <;> omega
  exact ⟨b, off, ha, hm.cell hb' h1, hm.cell hb' h2, hm.cell hb' h3⟩
theorem NewParts.lt {B : Nat} {w : World} {z : Option Addr} {ps : List (Int × Int × Int)} (h : NewParts B w z ps) : ∀ b off, z = some ⟨b, off, none⟩ → ps.length = 0 ∨ (B ≤ b ∧ b < w.heap.size) := by
  intro b off hab
  rcases h.2 with h | ⟨b', m, h1, h2, h3, _⟩
  · exact .inl h
  · rw [h3] at hab
    obtain ⟨rfl, rfl⟩ : b' = b ∧ 0 = off := by simpa using hab
    exact .inr ⟨h1, h2⟩
theorem LS.mid {B C : Nat} {w w1 w2 : World} {v0 v1 : Value} {q at' way : Int} (h : LS w w w1 v0 v1 q at' way) (hm : Mid B C w1 w2) (hB : w.heap.size + 1 < B) (hw : B ≤ w1.heap.size) : LS w w w2 v0 v1 q at' way :=
  ⟨⟨hm.cell (.inl (by omega)) h.1.1, hm.cell (.inl (by omega)) h.1.2.1, hm.cell (.inl (by omega)) h.1.2.2.1, hm.cell (.inl (by omega)) h.1.2.2.2.1, hm.cell (.inl (by omega)) h.1.2.2.2.2⟩, h.2.out.trans ((hm.below hw).mono (by omega))⟩

/-- The marks of a list that a call has made, or none. -/
def PMarked (w : World) (z : Option Addr) (n : Nat) (k : Int) : Prop := n = 0 ∨ ∃ b, z = some ⟨b, 0, none⟩ ∧ MarkedP w b n k
theorem PMarked.later {w w' : World} {z : Option Addr} {n : Nat} {k : Int} (h : PMarked w z n k) (hb : Below w.heap.size w w') : PMarked w' z n k := by
  rcases h with h | ⟨b, h1, h2⟩
  · exact .inl h
  · refine .inr ⟨b, h1, fun i hi => ?_⟩
    obtain ⟨c0, c1, c2⟩ := h2 i hi
    exact ⟨cell_later' hb c0, cell_later' hb c1, cell_later' hb c2⟩
theorem markParts_own {B : Nat} {w : World} {z : Option Addr} {ps : List (Int × Int × Int)} (zc : Nat) (h : NewParts B w z ps) (hn : ps.length ≤ 1048576) :
    Calls Try.prog 44 #[.slice z ps.length zc, .int .i64 1] w fun e w' => e = .returned (.int .i64 (1 + 3 * ps.length)) ∧ Mid B w.heap.size w w' ∧ PMarked w' z ps.length 1 := by
  rcases h.2 with h0 | ⟨b, m, h1, h2, rfl, h4, h5⟩
  · rw [h0]
    refine (markPartS_none z zc 1 w).mono ?_
    rintro e w' ⟨rfl, rfl⟩
    exact ⟨by simp, Mid.refl _ _ _, .inl rfl⟩
  · refine (markPartS_some b ps.length zc m 1 w hn h4 (by omega) (by omega) h5).mono ?_
    rintro e w' ⟨rfl, hm, _, hmk⟩
    exact ⟨rfl, hm.wide h1 (by omega), .inr ⟨b, rfl, hmk⟩⟩
theorem heldParts_own {w : World} {z : Option Addr} {n : Nat} (zc : Nat) (h : PMarked w z n 1) (hn : n ≤ 1048576) :
    Calls Try.prog 45 #[.slice z n zc, .int .i64 1] w fun e w' => e = .returned (.int .i64 (1 + 3 * n)) ∧ w = w' := by
  rcases h with h | ⟨b, h1, h2⟩
  · exact heldPartS_any 0 n zc z 1 w hn (by omega) (by omega) (.inl h)
  · exact heldPartS_any b n zc z 1 w hn (by omega) (by omega) (.inr ⟨h1, h2⟩)
end Go.Proofs.Ytplnppdlabpodaa
