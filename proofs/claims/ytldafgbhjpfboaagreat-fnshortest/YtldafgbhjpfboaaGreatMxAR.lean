/- spec.PathLies. Own work. -/
import Derived.Test.YtldafgbhjpfboaaGreatWsB
import Derived.Test.YtldafgbhjpfboaaGreatMxAE
import Derived.Test.YtldafgbhjpfboaaGreatTo
import Derived.Test.YtldafgbhjpfboaaGreatMxAQ
import Derived.Test.YtldafgbhjpfboaaGreatWaE
import Derived.Test.YtldafgbhjpfboaaGreatMxAI
namespace Go.Proofs.YtldafgbhjpfboaaGreat
open Go.RowKit
set_option maxHeartbeats 4000000

end Go.Proofs.YtldafgbhjpfboaaGreat

namespace Go.Proofs.YtldafgbhjpfboaaGreat
open Go.RowKit
set_option maxHeartbeats 1000000

theorem conv1 (wr : World) (x : Int) : (convert 22 9 (.slice (some ⟨wr.heap.size, 0, none⟩) 1 1)).run Tryz.prog (wr.alloc (.cells #[.int .u8 x] 5)) = .ok (.string (ByteArray.empty.push (UInt8.ofNat x.toNat))) (wr.alloc (.cells #[.int .u8 x] 5)) := by
  rw [run_convert_bytes_string _ _ _ _ _ _ _ Tryz.underlying22 Tryz.underlying5 Tryz.underlying9]
  rw [run_bytesToString _ _ _ _ [x] (by simp [loadCells, go_sem])]
  rfl

def md : Nat → Int → ByteArray → ByteArray
  | 0, _, s => s
  | f + 1, n, s => if n ≤ 0 then s else md f (n / 10) (ByteArray.empty.push (UInt8.ofNat (48 + n % 10).toNat) ++ s)

theorem md_fuel (f : Nat) : ∀ (g : Nat) (n : Int) (s : ByteArray), n.toNat < f → n.toNat < g → md f n s = md g n s := by
  induction f with
  | zero => intro g n s h; omega
  | succ f ih =>
    intro g n s hf hg
    match g, hg with
    | g + 1, hg =>
      by_cases hn : n ≤ 0
      · simp [md, hn]
      · rw [md, md, if_neg hn, if_neg hn]
        exact ih g (n / 10) _ (by omega) (by omega)

theorem size_dig (c : UInt8) (s : ByteArray) : (ByteArray.empty.push c ++ s).size = 1 + s.size := by
  rw [ByteArray.size_append, ByteArray.size_push]; rfl
end Go.Proofs.YtldafgbhjpfboaaGreat

namespace Go.Proofs.YtldafgbhjpfboaaGreat
open Go.RowKit
set_option maxHeartbeats 1000000

def mtext (k : Int) : ByteArray := if k ≤ 0 then ⟨#[109, 48]⟩ else ⟨#[109]⟩ ++ md (k.toNat + 1) k ⟨#[]⟩

end Go.Proofs.YtldafgbhjpfboaaGreat

namespace Go.Proofs.YtldafgbhjpfboaaGreat
open Go.RowKit
set_option maxHeartbeats 1000000

/-- The rows of joints that a call has made, what they hold not told but for the lists of ends. -/
def JRows (w : World) (b C : Nat) (js : List Jt) : Prop :=
  Row w b 79 (js.length * 3) ∧ b < C ∧ ∀ k (_ : k < js.length), ∃ b', b < b' ∧ b' < C ∧ w.cell? ⟨b, k * 3 + 2, none⟩ = some (.slice (some ⟨b', 0, none⟩) js[k].ends.length js[k].ends.length) ∧ Row w b' 89 (js[k].ends.length * 2)

theorem JtsOwn.rows {w : World} {b : Nat} {js : List Jt} (h : JtsOwn w b js) : JRows w b w.heap.size js := by
  refine ⟨h.1, by obtain ⟨f, hf⟩ := h.1; exact hf.lt, fun k hk => ?_⟩
  obtain ⟨b', h0, _, _, h3, h4, _⟩ := h.2 k hk
  exact ⟨b', h0, by obtain ⟨f, hf⟩ := h4; exact hf.lt, h3, h4⟩

theorem JRows.later {w w' : World} {b C js} (h : JRows w b C js) (hb : Below w.heap.size w w') : JRows w' b C js := by
  refine ⟨h.1.later hb, h.2.1, fun k hk => ?_⟩
  obtain ⟨b', h0, h1, h2, h3⟩ := h.2.2 k hk
  exact ⟨b', h0, h1, cell_later' hb h2, h3.later hb⟩

theorem JRows.set {w : World} {b C js} (h : JRows w b C js) (o : Nat) (ho : ∀ k, o ≠ k * 3 + 2) (v : Value) : JRows (w.setCell ⟨b, o, none⟩ v) b C js := by
  obtain ⟨⟨f, hf⟩, hC, hk⟩ := h
  refine ⟨⟨_, hf.set o v⟩, hC, fun k hlt => ?_⟩
  obtain ⟨b', h0, h1, h2, h3⟩ := hk k hlt
  refine ⟨b', h0, h1, ?_, h3.setOther (by omega) v⟩
  rw [(hf.set o v).cell (by omega), if_neg (fun h => ho k h.symm)]
  rw [hf.cell (by omega)] at h2
  exact h2

theorem JRows.mid {w w' : World} {b C js} {b0 n0 : Nat} (h : JRows w b C js) (hm : Mid b0 (b0 + 1) w w') (hb : b < b0) (hr : Row w' b0 89 n0) (hr0 : Row w b0 89 n0) : JRows w' b C js := by
  refine ⟨hm.row (by omega) h.1, h.2.1, fun k hk => ?_⟩
  obtain ⟨b', h0, h1, h2, h3⟩ := h.2.2 k hk
  refine ⟨b', h0, h1, hm.cell (by omega) h2, ?_⟩
  by_cases e : b' = b0
  · subst e
    obtain ⟨f, c, hc, hn, _⟩ := h3
    obtain ⟨f0, c0, hc0, hn0, _⟩ := hr0
    rw [hc] at hc0
    have : c = c0 := by simpa using hc0
    subst this
    rw [← hn, hn0]; exact hr
  · exact hm.row (by omega) h3

end Go.Proofs.YtldafgbhjpfboaaGreat

/- The law FnExactPathLies' walk. Own work. -/
namespace Go.Proofs.YtldafgbhjpfboaaGreat
open Go.RowKit
set_option maxHeartbeats 8000000

/-- A list of lies that a call has made from block B on, or none. -/
def NewL (B : Nat) (w : World) (z : Option Addr) (ps : List (Int × Int)) : Prop :=
  EndsAt w z ps ∧ (ps.length = 0 ∨ ∃ b m, B ≤ b ∧ b < w.heap.size ∧ z = some ⟨b, 0, none⟩ ∧ ps.length * 2 ≤ m ∧ Row w b 39 m)
theorem newL {w : World} {base : Nat} {v : Value} {ps : List (Int × Int)} (h : w.ownsRow base 39 2 v ps.length (lieCells ps)) : ∃ z zc, v = .slice z ps.length zc ∧ NewL base w z ps := by
  rcases lies_of_owns h with ⟨rfl, rfl⟩ | ⟨b, cap, rfl, hb, hn, hP, hR⟩
  · exact ⟨none, 0, rfl, fun k hk => by simp at hk, .inl rfl⟩
  · exact ⟨_, cap, rfl, hP, .inr ⟨b, cap * 2, hb, by obtain ⟨f, hf⟩ := hR; exact hf.lt, rfl, by omega, hR⟩⟩
theorem NewL.later {B : Nat} {w w' : World} {z : Option Addr} {ps : List (Int × Int)} (h : NewL B w z ps) (hb : Below w.heap.size w w') : NewL B w' z ps := by
  refine ⟨h.1.later hb, ?_⟩
  rcases h.2 with h | ⟨b, m, h1, h2, h3, h4, h5⟩
  · exact .inl h
  · exact .inr ⟨b, m, h1, Nat.lt_of_lt_of_le h2 hb.size, h3, h4, h5.later hb⟩
theorem EndsAt.midL {B C : Nat} {w w' : World} {z : Option Addr} {ps : List (Int × Int)} (h : EndsAt w z ps) (hm : Mid B C w w') (hz : ∀ b off, z = some ⟨b, off, none⟩ → ps.length = 0 ∨ b < B ∨ C ≤ b) : EndsAt w' z ps := by
  intro k hk
  obtain ⟨b, off, ha, h1, h2⟩ := h k hk
  have hb' : b < B ∨ C ≤ b := by rcases hz b off ha with h | h <;> omega
  exact ⟨b, off, ha, hm.cell hb' h1, hm.cell hb' h2⟩
theorem NewL.lt {B : Nat} {w : World} {z : Option Addr} {ps : List (Int × Int)} (h : NewL B w z ps) : ∀ b off, z = some ⟨b, off, none⟩ → ps.length = 0 ∨ (B ≤ b ∧ b < w.heap.size) := by
  intro b off hab
  rcases h.2 with h | ⟨b', m, h1, h2, h3, _⟩
  · exact .inl h
  · rw [h3] at hab
    obtain ⟨rfl, rfl⟩ : b' = b ∧ 0 = off := by simpa using hab
    exact .inr ⟨h1, h2⟩
theorem NewL.mid {B0 B C : Nat} {w w' : World} {z : Option Addr} {ps : List (Int × Int)} (h : NewL B0 w z ps) (hm : Mid B C w w') (hz : ∀ b, z = some ⟨b, 0, none⟩ → b < w.heap.size → B0 ≤ b → (b < B ∨ C ≤ b)) : NewL B0 w' z ps := by
  rcases h.2 with h0 | ⟨b, m, h1, h2, rfl, h4, h5⟩
  · exact ⟨fun k hk => by omega, .inl h0⟩
  · have hb := hz b rfl h2 h1
    refine ⟨fun k hk => ?_, .inr ⟨b, m, h1, Nat.lt_of_lt_of_le h2 hm.size, rfl, h4, hm.row hb h5⟩⟩
    obtain ⟨b', off, e, c0, c1⟩ := h.1 k hk
    obtain ⟨rfl, rfl⟩ : b = b' ∧ 0 = off := by simpa using e
    exact ⟨b, 0, rfl, hm.cell hb c0, hm.cell hb c1⟩
theorem markedL {w w' : World} {a : Option Addr} {n : Nat} {k : Int} (h : Marked w a n k) (hb : Below w.heap.size w w') : Marked w' a n k := by
  intro i hi
  obtain ⟨b, ha, h1, h2⟩ := h i hi
  exact ⟨b, ha, cell_later' hb h1, cell_later' hb h2⟩
/-- The box of the net that came in and the box of the net that was handed over. -/
abbrev LY2 (w wx : World) (v0 v1 : Value) (b : Nat) (u0 u1 : Value) (wb : World) : Prop := (LY w wx v0 v1 ∧ wx.cell? ⟨b, 0, none⟩ = some u0 ∧ wx.cell? ⟨b, 1, none⟩ = some u1) ∧ Hid (Below wb.heap.size wb wx)
theorem keepY2 {w w2 w3 wb : World} {v0 v1 : Value} {b : Nat} {u0 u1 : Value} (hb : Below w2.heap.size w2 w3) (h : LY2 w w2 v0 v1 b u0 u1 wb) : LY2 w w3 v0 v1 b u0 u1 wb :=
  ⟨⟨keepY hb h.1.1, cell_later' hb h.1.2.1, cell_later' hb h.1.2.2⟩, h.2.out.trans (hb.mono h.2.out.size)⟩
theorem LY.mid {B C : Nat} {w w1 w2 : World} {v0 v1 : Value} (h : LY w w1 v0 v1) (hm : Mid B C w1 w2) (hB : w.heap.size < B) (hw : B ≤ w1.heap.size) : LY w w2 v0 v1 :=
  ⟨⟨hm.cell (.inl (by omega)) h.1.1, hm.cell (.inl (by omega)) h.1.2⟩, h.2.out.trans ((hm.below hw).mono (by omega))⟩

end Go.Proofs.YtldafgbhjpfboaaGreat
