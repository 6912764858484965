/- The laws' own helpers on paths (in part written by gen_lht.py out of those on ends). Own work. -/
import Derived.Test.YtijdigdcmjdooaaGreatMxAR
import Derived.Test.YtijdigdcmjdooaaGreatMxAT
namespace Go.Proofs.YtijdigdcmjdooaaGreat
open Go.RowKit
set_option maxHeartbeats 4000000

/-- A path that a call has made. -/
structure PathOwn (B : Nat) (w : World) (b1 b2 : Nat) (ss ls : List (Int × Int)) : Prop where
  lo : B ≤ b1
  ne : b1 < b2
  hi : b2 < w.heap.size
  r1 : Row w b1 132 (ss.length * 2)
  r2 : Row w b2 177 (ls.length * 2)
  s1 : EndsAt w (some ⟨b1, 0, none⟩) ss
  s2 : EndsAt w (some ⟨b2, 0, none⟩) ls
theorem PathOwn.later {B : Nat} {w w' : World} {b1 b2 : Nat} {ss ls : List (Int × Int)} (h : PathOwn B w b1 b2 ss ls) (hb : Below w.heap.size w w') : PathOwn B w' b1 b2 ss ls :=
  ⟨h.lo, h.ne, Nat.lt_of_lt_of_le h.hi hb.size, h.r1.later hb, h.r2.later hb, h.s1.later hb, h.s2.later hb⟩

theorem row_set {w : World} {b1 b o m : Nat} {T : TypeId} (h : Row w b1 T m) (hne : b ≠ b1) (v : Value) : Row (w.setCell ⟨b, o, none⟩ v) b1 T m := by
  obtain ⟨f, hf⟩ := h
  exact ⟨f, hf.of_block (Below.heap_setCell w ⟨b, o, none⟩ v b1 (fun e => hne e.symm))⟩
theorem ends_set {w : World} {z : Option Addr} {ss : List (Int × Int)} {b o : Nat} (h : EndsAt w z ss) (hne : ∀ c i, z = some ⟨c, i, none⟩ → b ≠ c) (v : Value) : EndsAt (w.setCell ⟨b, o, none⟩ v) z ss := by
  intro k hk
  obtain ⟨c, i, e, h1, h2⟩ := h k hk
  have := hne c i e
  refine ⟨c, i, e, ?_, ?_⟩
  · rw [World.cell?_setCell_far w ⟨b, o, none⟩ ⟨c, i + k * 2, none⟩ v this]; exact h1
  · rw [World.cell?_setCell_far w ⟨b, o, none⟩ ⟨c, i + k * 2 + 1, none⟩ v this]; exact h2
theorem PathOwn.set {B : Nat} {w : World} {b1 b2 b o : Nat} {ss ls : List (Int × Int)} (h : PathOwn B w b1 b2 ss ls) (hb : b < b1) (v : Value) : PathOwn B (w.setCell ⟨b, o, none⟩ v) b1 b2 ss ls :=
  ⟨h.lo, h.ne, by simp; exact h.hi, row_set h.r1 (by omega) v, row_set h.r2 (by have := h.ne; omega) v, ends_set h.s1 (fun c i e => by cases e; omega) v, ends_set h.s2 (fun c i e => by cases e; have := h.ne; omega) v⟩
/-- While a path is made. -/
structure TP (w wr : World) (ok : Bool) (far : Int) (vz vl v2 v3 : Value) : Prop where
  a2 : wr.cell? ⟨w.heap.size, 2, none⟩ = some vz
  a3 : wr.cell? ⟨w.heap.size, 3, none⟩ = some vl
  r0 : wr.cell? ⟨w.heap.size + 1, 0, none⟩ = some (.bool false)
  r1 : wr.cell? ⟨w.heap.size + 1, 1, none⟩ = some (.int .i64 0)
  r2 : wr.cell? ⟨w.heap.size + 1, 2, none⟩ = some (.slice none 0 0)
  r3 : wr.cell? ⟨w.heap.size + 1, 3, none⟩ = some (.slice none 0 0)
  o0 : wr.cell? ⟨w.heap.size + 1 + 1, 0, none⟩ = some (.bool ok)
  o1 : wr.cell? ⟨w.heap.size + 1 + 1, 1, none⟩ = some (.int .i64 far)
  o2 : wr.cell? ⟨w.heap.size + 1 + 1, 2, none⟩ = some v2
  o3 : wr.cell? ⟨w.heap.size + 1 + 1, 3, none⟩ = some v3
  fr : ∀ i, wr.frozen? ⟨w.heap.size + 1, i, none⟩ = false
  fo : ∀ i, wr.frozen? ⟨w.heap.size + 1 + 1, i, none⟩ = false
  size : w.heap.size + 1 + 1 < wr.heap.size
  below : Below w.heap.size w wr
theorem TP.later {w w1 w2 : World} {ok : Bool} {far : Int} {vz vl v2 v3 : Value} (h : TP w w1 ok far vz vl v2 v3) (hb : Below w1.heap.size w1 w2) : TP w w2 ok far vz vl v2 v3 :=
  ⟨cell_later' hb h.a2, cell_later' hb h.a3, cell_later' hb h.r0, cell_later' hb h.r1, cell_later' hb h.r2, cell_later' hb h.r3, cell_later' hb h.o0, cell_later' hb h.o1, cell_later' hb h.o2, cell_later' hb h.o3, fun i => by rw [hb.frozen (p := ⟨w.heap.size + 1, i, none⟩) (cell_lt h.r0)]; exact h.fr i, fun i => by rw [hb.frozen (p := ⟨w.heap.size + 1 + 1, i, none⟩) (cell_lt h.o0)]; exact h.fo i, Nat.lt_of_lt_of_le h.size hb.size, h.below.trans (hb.mono h.below.size)⟩
theorem TP.set2 {w w1 : World} {ok : Bool} {far : Int} {vz vl v2 v3 : Value} (h : TP w w1 ok far vz vl v2 v3) (v : Value) : TP w (w1.setCell ⟨w.heap.size + 1 + 1, 2, none⟩ v) ok far vz vl v v3 := by
  have e : ∀ b i, b < w.heap.size + 1 + 1 → (w1.setCell ⟨w.heap.size + 1 + 1, 2, none⟩ v).cell? ⟨b, i, none⟩ = w1.cell? ⟨b, i, none⟩ := fun b i hb => World.cell?_setCell_far w1 ⟨w.heap.size + 1 + 1, 2, none⟩ ⟨b, i, none⟩ v (by show w.heap.size + 1 + 1 ≠ b; omega)
  exact ⟨(e _ _ (by omega)).trans h.a2, (e _ _ (by omega)).trans h.a3, (e _ _ (by omega)).trans h.r0, (e _ _ (by omega)).trans h.r1, (e _ _ (by omega)).trans h.r2, (e _ _ (by omega)).trans h.r3, by simp [go_sem, h.o0], by simp [go_sem, h.o1], by simp [go_sem, h.o2], by simp [go_sem, h.o3], fun i => by rw [World.frozen?_setCell]; exact h.fr i, fun i => by rw [World.frozen?_setCell]; exact h.fo i, by simp; exact h.size, h.below.setCell (by show w.heap.size ≤ w.heap.size + 1 + 1; omega) _⟩
end Go.Proofs.YtijdigdcmjdooaaGreat
