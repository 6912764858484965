import Derived.Test.YteapmddadieohaaMxAA
import Derived.Deep.OwnRows
namespace Go.Proofs.Yteapmddadieohaa
open Go.RowKit
set_option maxHeartbeats 400000

theorem run_make_rows {P : Program} (t e : TypeId) (z : Value) (s bytes : Nat) (ht : P.underlying t = some (.slice e)) (hinfo : (P.info? e).map (fun i => (i.zero, i.size, i.bytes)) = some (some z, s, bytes))
    (n : Nat) (hbytes : bytes * n ≤ 281474976710656) (h63 : n ≤ 9223372036854775807) (w : World) :
    (Instr.makeSlice t (.int .i64 (n : Int)) (.int .i64 (n : Int))).run P w = .ok (.slice (some ⟨w.heap.size, 0, none⟩) n n) (w.alloc (.cells (madeCells z.cells (n * s)) e)) := by
  obtain ⟨i, hi, hzz⟩ := Option.map_eq_some_iff.1 hinfo
  simp only [Prod.mk.injEq] at hzz
  obtain ⟨hz, hs, hb⟩ := hzz
  subst hs; subst hb
  have hb' : (i.bytes : Int) * (n : Int) ≤ 281474976710656 := by
    have h : ((i.bytes * n : Nat) : Int) ≤ 281474976710656 := by omega
    rwa [Int.natCast_mul] at h
  have hr := run_make (P := P) w t e i z ht hi hz .i64 .i64 n n (by omega) (Int.le_refl _) hb' (by omega)
  simp only [Int.toNat_natCast] at hr
  exact hr

theorem rowIs_made' (w : World) (z : Array Value) (n : Nat) (t : TypeId) : ∃ f, (w.alloc (.cells (madeCells z n) t)).rowIs w.heap.size t n f := by
  have h := World.rowIs_alloc w (madeCells z n) t (fun i => (madeCells z n)[i]!) (by intro i hi; simp [hi])
  rw [size_madeCells] at h
  exact ⟨_, h⟩

/-- An own row, what it holds not told. -/
def Row (w : World) (b : Nat) (t : TypeId) (n : Nat) : Prop := ∃ f, w.rowIs b t n f

theorem Row.later {w w' : World} {b t n} (h : Row w b t n) (hb : Below w.heap.size w w') : Row w' b t n := by
  obtain ⟨f, hf⟩ := h
  exact ⟨f, hf.of_block (hb.block b hf.lt)⟩

theorem info_Piece : (Try.prog.info? 41).map (fun i => (i.zero, i.size, i.bytes)) = some (some (.agg #[.string ⟨#[]⟩, .int .i64 0, .int .i64 0, .int .i64 0]), 4, 40) := by kernel_rfl
theorem info_End : (Try.prog.info? 59).map (fun i => (i.zero, i.size, i.bytes)) = some (some (.agg #[.int .i64 0, .int .i64 0]), 2, 16) := by kernel_rfl
theorem info_Joint : (Try.prog.info? 53).map (fun i => (i.zero, i.size, i.bytes)) = some (some (.agg #[.int .i64 0, .string ⟨#[]⟩, .slice none 0 0]), 3, 48) := by kernel_rfl

/-- Joints that a call has made: their row, and behind it a row of ends for each. -/
def JtsOwn (w : World) (B : Nat) (js : List Jt) : Prop :=
  Row w B 53 (js.length * 3) ∧ ∀ k (_ : k < js.length), ∃ b, B < b ∧ w.cell? ⟨B, k * 3, none⟩ = some (.int .i64 js[k].kind) ∧ w.cell? ⟨B, k * 3 + 1, none⟩ = some (.string js[k].name) ∧ w.cell? ⟨B, k * 3 + 2, none⟩ = some (.slice (some ⟨b, 0, none⟩) js[k].ends.length js[k].ends.length) ∧ Row w b 59 (js[k].ends.length * 2) ∧ EndsAt w (some ⟨b, 0, none⟩) js[k].ends

theorem JtsOwn.at {w B js} (h : JtsOwn w B js) : JtsAt w (some ⟨B, 0, none⟩) js := by
  intro k hk
  obtain ⟨b, _, h1, h2, h3, _, h5⟩ := h.2 k hk
  exact ⟨B, 0, _, _, rfl, by rw [Nat.zero_add]; exact h1, by rw [Nat.zero_add]; exact h2, by rw [Nat.zero_add]; exact h3, h5⟩

theorem EndsAt.setOther {w : World} {b : Nat} {es} (h : EndsAt w (some ⟨b, 0, none⟩) es) {B o : Nat} (hne : b ≠ B) (v : Value) : EndsAt (w.setCell ⟨B, o, none⟩ v) (some ⟨b, 0, none⟩) es := by
  intro k hk
  obtain ⟨b', off, ha, h1, h2⟩ := h k hk
  obtain ⟨rfl, rfl⟩ : b = b' ∧ 0 = off := by simpa using ha
  refine ⟨b, 0, rfl, ?_, ?_⟩
  · rw [World.cell?_of_block (w := w) (w' := w.setCell ⟨B, o, none⟩ v) (a := ⟨b, 0 + k * 2, none⟩) (Below.heap_setCell _ _ _ _ hne)]; exact h1
  · rw [World.cell?_of_block (w := w) (w' := w.setCell ⟨B, o, none⟩ v) (a := ⟨b, 0 + k * 2 + 1, none⟩) (Below.heap_setCell _ _ _ _ hne)]; exact h2

theorem Row.setOther {w : World} {b t n} (h : Row w b t n) {B o : Nat} (hne : b ≠ B) (v : Value) : Row (w.setCell ⟨B, o, none⟩ v) b t n := by
  obtain ⟨f, hf⟩ := h
  exact ⟨f, hf.setOther hne v⟩

theorem JtsOwn.later {w w' : World} {B js} (h : JtsOwn w B js) (hb : Below w.heap.size w w') : JtsOwn w' B js := by
  refine ⟨h.1.later hb, fun k hk => ?_⟩
  obtain ⟨b, h0, h1, h2, h3, h4, h5⟩ := h.2 k hk
  exact ⟨b, h0, cell_later' hb h1, cell_later' hb h2, cell_later' hb h3, h4.later hb, h5.later hb⟩

/-- A net that a call has made, in blocks from B on. -/
def NetOwn (w : World) (B b1 b2 : Nat) (N : Nt) : Prop :=
  B ≤ b1 ∧ b1 < b2 ∧ Row w b1 41 (N.pcs.length * 4) ∧ PcsAt w (some ⟨b1, 0, none⟩) N.pcs ∧ JtsOwn w b2 N.jts

theorem NetOwn.later {w w' : World} {B b1 b2 N} (h : NetOwn w B b1 b2 N) (hb : Below w.heap.size w w') : NetOwn w' B b1 b2 N :=
  ⟨h.1, h.2.1, h.2.2.1.later hb, h.2.2.2.1.later hb, h.2.2.2.2.later hb⟩

theorem PcsAt.setOther {w : World} {b : Nat} {ps} (h : PcsAt w (some ⟨b, 0, none⟩) ps) {B o : Nat} (hne : b ≠ B) (v : Value) : PcsAt (w.setCell ⟨B, o, none⟩ v) (some ⟨b, 0, none⟩) ps := by
  intro k hk
  obtain ⟨b', off, ha, h1, h2, h3, h4⟩ := h k hk
  obtain ⟨rfl, rfl⟩ : b = b' ∧ 0 = off := by simpa using ha
  have e : ∀ i, (w.setCell ⟨B, o, none⟩ v).cell? ⟨b, i, none⟩ = w.cell? ⟨b, i, none⟩ := fun i => World.cell?_of_block (w := w) (w' := w.setCell ⟨B, o, none⟩ v) (a := ⟨b, i, none⟩) (Below.heap_setCell _ _ _ _ hne)
  exact ⟨b, 0, rfl, by rw [e]; exact h1, by rw [e]; exact h2, by rw [e]; exact h3, by rw [e]; exact h4⟩

theorem JtsOwn.setOther {w : World} {b : Nat} {js} (h : JtsOwn w b js) {B o : Nat} (hne : B < b) (v : Value) : JtsOwn (w.setCell ⟨B, o, none⟩ v) b js := by
  refine ⟨h.1.setOther (by omega) v, fun k hk => ?_⟩
  obtain ⟨b', h0, h1, h2, h3, h4, h5⟩ := h.2 k hk
  have e : ∀ i, (w.setCell ⟨B, o, none⟩ v).cell? ⟨b, i, none⟩ = w.cell? ⟨b, i, none⟩ := fun i => World.cell?_of_block (w := w) (w' := w.setCell ⟨B, o, none⟩ v) (a := ⟨b, i, none⟩) (Below.heap_setCell _ _ _ _ (by show b ≠ B; omega))
  exact ⟨b', h0, by rw [e]; exact h1, by rw [e]; exact h2, by rw [e]; exact h3, h4.setOther (by omega) v, h5.setOther (by omega) v⟩

end Go.Proofs.Yteapmddadieohaa
