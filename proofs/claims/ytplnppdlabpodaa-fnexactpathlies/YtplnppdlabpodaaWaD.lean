/- liesFor, impl.PathLies. Own work. -/
import Derived.Test.YtplnppdlabpodaaWaC
import Derived.Test.YtplnppdlabpodaaLhI
import Derived.Deep.AppendLies
import Derived.Deep.CutRange
namespace Go.Proofs.Ytplnppdlabpodaa
open Go.RowKit
set_option maxHeartbeats 8000000

/-- A list of lies, cell by cell. -/
def lieCells (ps : List (Int × Int)) : List Value := ps.flatMap fun p => [.int .i64 p.1, .int .i64 p.2]
theorem infoLie : (Try.prog.info? 132).map (fun i => (i.zero, i.size, i.bytes)) = some (some (.agg #[.int .i64 0, .int .i64 0]), 2, 16) := by kernel_rfl

/-- What between tells, in one form. -/
def BQ (N : Nt) (s t : Int × Int) (x y : Int) (ok : Bool) : Prop :=
  (ok = false ∧ wantP N s t = none) ∨ (ok = true ∧ ∃ (j : Nat) (hj : j < N.jts.length), x = j ∧ wantP N s t = some (j, y) ∧ (N.jts[j].kind = 3 → ¬ y = 0) ∧ (¬ y = 0 → N.jts[j].kind = 3) ∧ 0 ≤ y ∧ y ≤ 2)
theorem between_one (a a' : Option Addr) (N : Nt) (cap cap' m n : Nat) (s1 s2 t1 t2 : Int) (w : World) (hright : netOk N = (0, 0)) (hn : N.pcs.length ≤ 1048576) (hs : stepOk N.pcs.length (s1, s2) = true) (ht : stepOk N.pcs.length (t1, t2) = true) (hJ : JtsAt w a' N.jts) (hSE : SE w m n (seatTo N.jts N.jts.length)) :
    Calls Try.prog 128 #[.agg #[.slice a N.pcs.length cap, .slice a' N.jts.length cap', .map (some m)], .agg #[.int .i64 s1, .int .i64 s2], .agg #[.int .i64 t1, .int .i64 t2]] w fun e w' =>
    ∃ (x y : Int) (ok : Bool), e = .returned (.tuple #[.agg #[.int .i64 x, .int .i64 y], .bool ok]) ∧ BQ N (s1, s2) (t1, t2) x y ok ∧ Below w.heap.size w w' := by
  refine (between_any a a' N cap cap' m n s1 s2 t1 t2 w hright hn hs ht hJ hSE).mono ?_
  rintro e w' ⟨⟨h, rfl⟩ | ⟨j, l, hj, h1, h2, h3, h4, h5, rfl⟩, hb⟩
  · exact ⟨0, 0, false, rfl, .inl ⟨rfl, h⟩, hb⟩
  · exact ⟨j, l, true, rfl, .inr ⟨rfl, j, hj, rfl, h1, h2, h3, h4, h5⟩, hb⟩

/-- Between two rounds of liesFor: the layout in block bl, what is known in block bk; nothing of this lies from bs on. -/
structure LF (w wr : World) (bl bk bs m n : Nat) (N : Nt) (v0 v1 : Value) (kn : Nat → Int) : Prop where
  c0 : wr.cell? ⟨bl, 0, none⟩ = some v0
  c1 : wr.cell? ⟨bl, 1, none⟩ = some v1
  c2 : wr.cell? ⟨bl, 2, none⟩ = some (.map (some m))
  row : ∃ f, wr.rowIs bk 3 N.jts.length f ∧ ∀ j, j < N.jts.length → f j = .int .i64 (kn j)
  se : SE wr m n (seatTo N.jts N.jts.length)
  below : Below w.heap.size w wr
  size : bs ≤ wr.heap.size
  wl : w.heap.size ≤ bl
  wk : w.heap.size ≤ bk
  lk : bl < bk
  ks : bk < bs
  ms : m < bs
  mne : m ≠ bk
  ml : m ≠ bl

theorem LF.later {w wr w2 : World} {bl bk bs m n : Nat} {N : Nt} {v0 v1 : Value} {kn : Nat → Int} (h : LF w wr bl bk bs m n N v0 v1 kn) (hb : Below wr.heap.size wr w2) : LF w w2 bl bk bs m n N v0 v1 kn where
  c0 := cell_later' hb h.c0
  c1 := cell_later' hb h.c1
  c2 := cell_later' hb h.c2
  row := by obtain ⟨f, hf, hk⟩ := h.row; exact ⟨f, hf.of_block (hb.block bk hf.lt), hk⟩
  se := h.se.of_block (hb.block m h.se.lt)
  below := h.below.trans (hb.mono h.below.size)
  size := Nat.le_trans h.size hb.size
  wl := h.wl
  wk := h.wk
  lk := h.lk
  ks := h.ks
  ms := h.ms
  mne := h.mne
  ml := h.ml

theorem LF.set {w wr : World} {bl bk bs m n : Nat} {N : Nt} {v0 v1 : Value} {kn : Nat → Int} (h : LF w wr bl bk bs m n N v0 v1 kn) (j : Nat) (l : Int) : LF w (wr.setCell ⟨bk, j, none⟩ (.int .i64 l)) bl bk bs m n N v0 v1 (fun i => if i = j then l else kn i) where
  c0 := by rw [World.cell?_setCell_far wr ⟨bk, j, none⟩ ⟨bl, 0, none⟩ _ (by have := h.lk; show bk ≠ bl; omega)]; exact h.c0
  c1 := by rw [World.cell?_setCell_far wr ⟨bk, j, none⟩ ⟨bl, 1, none⟩ _ (by have := h.lk; show bk ≠ bl; omega)]; exact h.c1
  c2 := by rw [World.cell?_setCell_far wr ⟨bk, j, none⟩ ⟨bl, 2, none⟩ _ (by have := h.lk; show bk ≠ bl; omega)]; exact h.c2
  row := by
    obtain ⟨f, hf, hk⟩ := h.row
    refine ⟨_, hf.set _ _, fun i hi => ?_⟩
    by_cases e : i = j
    · subst e; simp
    · simp [e, hk i hi]
  se := h.se.of_block (Below.heap_setCell _ _ _ _ h.mne)
  below := h.below.setCell (by show w.heap.size ≤ bk; exact h.wk) _
  size := by simpa using h.size
  wl := h.wl
  wk := h.wk
  lk := h.lk
  ks := h.ks
  ms := h.ms
  mne := h.mne
  ml := h.ml

theorem LF.grown {w wr w2 : World} {bl bk bs m n : Nat} {N : Nt} {v0 v1 : Value} {kn : Nat → Int} {row : Option Nat} (h : LF w wr bl bk bs m n N v0 v1 kn) (hg : wr.grownBy w2 row) (hrow : ∀ g, row = some g → bs ≤ g) : LF w w2 bl bk bs m n N v0 v1 kn := by
  have hne : ∀ B, B < bs → some B ≠ row := fun B hB e => by have := hrow B e.symm; omega
  have h1 := h.lk
  have h2 := h.ks
  have h3 := h.ms
  have h4 := h.wl
  have h5 := h.wk
  refine ⟨?_, ?_, ?_, ?_, ?_, h.below.grown hg h.below.size (fun k e => by have := hrow k e; omega), Nat.le_trans h.size hg.size, h.wl, h.wk, h.lk, h.ks, h.ms, h.mne, h.ml⟩
  · rw [hg.cell_far ⟨bl, 0, none⟩ (cell_lt h.c0) (hne _ (by show bl < bs; omega))]; exact h.c0
  · rw [hg.cell_far ⟨bl, 1, none⟩ (cell_lt h.c1) (hne _ (by show bl < bs; omega))]; exact h.c1
  · rw [hg.cell_far ⟨bl, 2, none⟩ (cell_lt h.c2) (hne _ (by show bl < bs; omega))]; exact h.c2
  · obtain ⟨f, hf, hk⟩ := h.row
    exact ⟨f, hf.of_block (hg.block bk hf.lt (hne _ h2)), hk⟩
  · exact h.se.of_block (hg.block m h.se.lt (hne _ h3))

/-- What liesFor tells. -/
def LiesR (N : Nt) (ss : List (Int × Int)) (base : Nat) (v : Value) (ok : Bool) (w' : World) : Prop :=
  (liesQ N ss = none ∧ v = .slice none 0 0 ∧ ok = false) ∨ (∃ out, liesQ N ss = some out ∧ ok = true ∧ out.length ≤ 400 ∧ w'.ownsRow base 132 2 v out.length (lieCells out))
end Go.Proofs.Ytplnppdlabpodaa
