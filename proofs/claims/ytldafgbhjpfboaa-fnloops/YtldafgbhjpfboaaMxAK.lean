import Derived.Test.YtldafgbhjpfboaaTo
import Derived.Deep.RegionWith
import Derived.Deep.RegionHeld3
namespace Go.Proofs.Ytldafgbhjpfboaa
open Go.RowKit
set_option maxHeartbeats 1000000

/-- Of the blocks that were there only some from B to below C have turned. -/
structure Mid (B C : Nat) (w w' : World) : Prop where
  os : w'.os = w.os
  tape : w'.tape = w.tape
  output : w'.output = w.output
  size : w.heap.size ≤ w'.heap.size
  block : ∀ k, k < w.heap.size → (k < B ∨ C ≤ k) → w'.heap[k]? = w.heap[k]?

theorem Mid.refl (B C : Nat) (w : World) : Mid B C w w := ⟨rfl, rfl, rfl, Nat.le_refl _, fun _ _ _ => rfl⟩
theorem Mid.trans {B C : Nat} {a b c : World} (h : Mid B C a b) (k : Mid B C b c) : Mid B C a c :=
  ⟨k.os.trans h.os, k.tape.trans h.tape, k.output.trans h.output, Nat.le_trans h.size k.size, fun i hi hc => (k.block i (Nat.lt_of_lt_of_le hi h.size) hc).trans (h.block i hi hc)⟩
theorem Mid.wide {B C B' C' : Nat} {w w' : World} (h : Mid B C w w') (hB : B' ≤ B) (hC : C ≤ C') : Mid B' C' w w' :=
  ⟨h.os, h.tape, h.output, h.size, fun k hk hc => h.block k hk (by omega)⟩
theorem Mid.of_below {B C : Nat} {w w' : World} (h : Below w.heap.size w w') : Mid B C w w' := ⟨h.os, h.tape, h.output, h.size, fun k hk _ => h.block k hk⟩
theorem Mid.setCell {B C : Nat} {a w : World} (h : Mid B C a w) {b o : Nat} (hB : B ≤ b) (hC : b < C) (u : Value) : Mid B C a (w.setCell ⟨b, o, none⟩ u) :=
  h.trans ⟨rfl, rfl, rfl, by simp [World.setCell], fun k _ hc => Below.heap_setCell _ _ _ _ (by show k ≠ b; omega)⟩
theorem Mid.below {B C : Nat} {w w' : World} (h : Mid B C w w') (hB : B ≤ w.heap.size) : Below B w w' := ⟨h.os, h.tape, h.output, h.size, fun k hk => h.block k (by omega) (by omega)⟩
theorem Mid.cell {B C : Nat} {w w' : World} (h : Mid B C w w') {b o : Nat} {v : Value} (hb : b < B ∨ C ≤ b) (hc : w.cell? ⟨b, o, none⟩ = some v) : w'.cell? ⟨b, o, none⟩ = some v := by
  rw [World.cell?_of_block (w := w) (w' := w') (a := ⟨b, o, none⟩) (h.block b (cell_lt hc) hb)]; exact hc
theorem Mid.row {B C : Nat} {w w' : World} (h : Mid B C w w') {b n : Nat} {t : TypeId} (hb : b < B ∨ C ≤ b) (hr : Row w b t n) : Row w' b t n := by
  obtain ⟨f, hf⟩ := hr
  exact ⟨f, hf.of_block (h.block b hf.lt hb)⟩

/-- A list of ends that a call has made, or none. -/
def OwnEnds (w : World) (a : Option Addr) (n : Nat) : Prop := n = 0 ∨ ∃ b, a = some ⟨b, 0, none⟩ ∧ Row w b 58 (n * 2)
def Marked (w : World) (a : Option Addr) (n : Nat) (k : Int) : Prop := ∀ i, i < n → ∃ b, a = some ⟨b, 0, none⟩ ∧ w.cell? ⟨b, i * 2, none⟩ = some (.int .i64 (k + 2 * i)) ∧ w.cell? ⟨b, i * 2 + 1, none⟩ = some (.int .i64 (k + 2 * i + 1))

end Go.Proofs.Ytldafgbhjpfboaa

/- The laws' own helpers on lists of steps and of lies (written by gen_lhs.py out of those on ends). Own work. -/
namespace Go.Proofs.Ytldafgbhjpfboaa
open Go.RowKit
set_option maxHeartbeats 1000000

theorem info_Step : (Try.prog.info? 32).map (fun i => (i.zero, i.size, i.bytes)) = some (some (.agg #[.int .i64 0, .int .i64 0]), 2, 16) := by kernel_rfl

end Go.Proofs.Ytldafgbhjpfboaa
