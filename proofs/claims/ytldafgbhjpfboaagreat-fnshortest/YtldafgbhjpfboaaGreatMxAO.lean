/- spec.PartsLen, spec.Touch. Own work. -/
import Derived.Test.YtldafgbhjpfboaaGreatMxAA
import Derived.Test.YtldafgbhjpfboaaGreatMxAN
import Derived.Deep.QuietTactic
import Derived.BigQuiet
import Derived.Test.YtldafgbhjpfboaaGreatMxAG
import Derived.Test.YtldafgbhjpfboaaGreatMxAF
import Derived.Test.YtldafgbhjpfboaaGreatTo
import Derived.Test.YtldafgbhjpfboaaGreatMxAK
import Derived.Deep.AppendLies
import Derived.Deep.CutRange
namespace Go.Proofs.YtldafgbhjpfboaaGreat
open Go.RowKit
set_option maxHeartbeats 2000000

abbrev Prt := Int × Int × Int
def partOk (p : Prt) : Bool := inR p.1 0 99 && inR p.2.1 0 10000000 && inR p.2.2 p.2.1 10000000
def partsOkP (ps : List Prt) : Bool := ps.all partOk && decide (ps.length ≤ 10000)
def lenSum (ps : List Prt) : Int := ps.foldl (fun n p => n + (p.2.2 - p.2.1)) 0
def partsLenP (ps : List Prt) : Int := if partsOkP ps = true then lenSum ps else -1
def meets (x y : Prt) : Bool := (x.1 == y.1) && decide (x.2.1 ≤ y.2.2) && decide (y.2.1 ≤ x.2.2)
def touchP (a b : List Prt) : Bool := partsOkP a && partsOkP b && a.any (fun x => b.any (meets x))

theorem lenSum_succ (ps : List Prt) (k : Nat) (hk : k < ps.length) : lenSum (ps.take (k + 1)) = lenSum (ps.take k) + (ps[k].2.2 - ps[k].2.1) := by
  unfold lenSum
  rw [List.take_succ_eq_append_getElem hk, List.foldl_append]
  rfl

theorem part_bounds {p : Prt} (h : partOk p = true) : (0 ≤ p.1 ∧ p.1 ≤ 99) ∧ (0 ≤ p.2.1 ∧ p.2.1 ≤ 10000000) ∧ p.2.1 ≤ p.2.2 ∧ p.2.2 ≤ 10000000 := by
  simp only [partOk, inR, Bool.and_eq_true, decide_eq_true_eq] at h
  omega

theorem ok_at {ps : List Prt} (h : partsOkP ps = true) (k : Nat) (hk : k < ps.length) : partOk ps[k] = true := by
  simp only [partsOkP, Bool.and_eq_true, List.all_eq_true] at h
  exact h.1 _ (List.getElem_mem hk)

theorem lenSum_bound {ps : List Prt} (h : partsOkP ps = true) (k : Nat) (hk : k ≤ ps.length) : 0 ≤ lenSum (ps.take k) ∧ lenSum (ps.take k) ≤ k * 10000000 := by
  induction k with
  | zero => simp [lenSum]
  | succ k ih =>
    rw [lenSum_succ _ _ (by omega)]
    have := ih (by omega)
    have := part_bounds (ok_at h k (by omega))
    omega

theorem l1in_a {x a b : Int} {r : Bool} (h : inR x a b = r) (w : World) : Calls Tryz.prog 34 #[.int .i64 x, .int .i64 a, .int .i64 b] w fun e w' =>
    e = .returned (.bool r) ∧ w = w' := (l1in_any x a b w).mono fun _ _ h' => ⟨by rw [h'.1, h], h'.2⟩

end Go.Proofs.YtldafgbhjpfboaaGreat

/- Stretch, plain. Own work. -/
namespace Go.Proofs.YtldafgbhjpfboaaGreat
set_option maxHeartbeats 1000000

/-- Where a path's step begins. -/
def atStep (N : Nt) (q a wy : Int) (ss : List (Int × Int)) (i : Nat) : Int × Int × Int := if i = 0 then (q, a, wy) else enterP N (headP ss[i]!.1 (-ss[i]!.2))
/-- How far is gone on from a spot, on its piece. -/
def goP (N : Nt) (left : Int) (s : Int × Int × Int) : Int := if roomP N s.1 s.2.1 s.2.2 > left then left else roomP N s.1 s.2.1 s.2.2
/-- What is left, and the parts, behind so many steps. -/
def strTo (N : Nt) (q a wy far : Int) (ss : List (Int × Int)) : Nat → Int × List Prt
  | 0 => (far, [])
  | i + 1 => ((strTo N q a wy far ss i).1 - goP N (strTo N q a wy far ss i).1 (atStep N q a wy ss i),
      (strTo N q a wy far ss i).2 ++ [partP (atStep N q a wy ss i).1 (atStep N q a wy ss i).2.1 ((atStep N q a wy ss i).2.1 + goP N (strTo N q a wy far ss i).1 (atStep N q a wy ss i) * (atStep N q a wy ss i).2.2)])
def StrOk (N : Nt) (ok : Bool) (far : Int) (ss : List (Int × Int)) (q a wy : Int) : Prop :=
  ok = true ∧ netOk N = (0, 0) ∧ spotP N q a wy = true ∧ inR far 0 1000000 = true ∧ ss.length ≠ 0 ∧ ss[0]! = (q, wy) ∧ stepsP N ss = true ∧ liesTo N ss (ss.length - 1) ≠ none
instance (N : Nt) (ok : Bool) (far : Int) (ss : List (Int × Int)) (q a wy : Int) : Decidable (StrOk N ok far ss q a wy) := by unfold StrOk; infer_instance
def stretchP (N : Nt) (ok : Bool) (far : Int) (ss : List (Int × Int)) (q a wy : Int) : List Prt :=
  if StrOk N ok far ss q a wy then (if (strTo N q a wy far ss ss.length).1 > 0 then [] else (strTo N q a wy far ss ss.length).2) else []

theorem str_not {N : Nt} {ok : Bool} {far : Int} {ss : List (Int × Int)} {q a wy : Int} (h : ¬ StrOk N ok far ss q a wy) : stretchP N ok far ss q a wy = [] := if_neg h
theorem str_left {N : Nt} {ok : Bool} {far : Int} {ss : List (Int × Int)} {q a wy : Int} (h : StrOk N ok far ss q a wy) (hl : (strTo N q a wy far ss ss.length).1 > 0) : stretchP N ok far ss q a wy = [] := by unfold stretchP; rw [if_pos h, if_pos hl]
theorem str_all {N : Nt} {ok : Bool} {far : Int} {ss : List (Int × Int)} {q a wy : Int} (h : StrOk N ok far ss q a wy) (hl : ¬ (strTo N q a wy far ss ss.length).1 > 0) : stretchP N ok far ss q a wy = (strTo N q a wy far ss ss.length).2 := by unfold stretchP; rw [if_pos h, if_neg hl]
theorem strTo_len (N : Nt) (q a wy far : Int) (ss : List (Int × Int)) (i : Nat) : (strTo N q a wy far ss i).2.length = i := by
  induction i with
  | zero => rfl
  | succ i ih => simp [strTo, ih]
theorem steps_at {N : Nt} {ss : List (Int × Int)} (h : stepsP N ss = true) {i : Nat} (hi : i < ss.length) : stepOk N.pcs.length ss[i]! = true := by
  simp only [stepsP, Bool.and_eq_true, List.all_eq_true] at h
  have : ss[i]! = ss[i] := by simp [hi]
  rw [this]
  exact h.2 _ (List.getElem_mem hi)
theorem steps_few {N : Nt} {ss : List (Int × Int)} (h : stepsP N ss = true) : ss.length ≤ 400 := by
  simp only [stepsP, Bool.and_eq_true, decide_eq_true_eq] at h
  exact h.1
theorem atStep_spot {N : Nt} {ss : List (Int × Int)} {q a wy : Int} (hr : netOk N = (0, 0)) (hs : spotP N q a wy = true) (h : stepsP N ss = true) {i : Nat} (hi : i < ss.length) : spotP N (atStep N q a wy ss i).1 (atStep N q a wy ss i).2.1 (atStep N q a wy ss i).2.2 = true := by
  unfold atStep
  split
  · exact hs
  · exact enterP_ok hr (stepOk_ends (steps_at h hi)).2
theorem goP_bd {N : Nt} {left : Int} {s : Int × Int × Int} (h : spotP N s.1 s.2.1 s.2.2 = true) (hl : 0 ≤ left) : 0 ≤ goP N left s ∧ goP N left s ≤ left ∧ goP N left s ≤ roomP N s.1 s.2.1 s.2.2 := by
  have := room_spot h
  unfold goP
  split <;> omega
theorem strTo_bd {N : Nt} {ss : List (Int × Int)} {q a wy far : Int} (hr : netOk N = (0, 0)) (hs : spotP N q a wy = true) (h : stepsP N ss = true) (hf : 0 ≤ far) {i : Nat} (hi : i ≤ ss.length) : 0 ≤ (strTo N q a wy far ss i).1 ∧ (strTo N q a wy far ss i).1 ≤ far := by
  induction i with
  | zero => exact ⟨hf, Int.le_refl _⟩
  | succ i ih =>
    have h1 := ih (by omega)
    have h2 := goP_bd (left := (strTo N q a wy far ss i).1) (atStep_spot hr hs h (show i < ss.length by omega)) h1.1
    simp only [strTo]
    omega
end Go.Proofs.YtldafgbhjpfboaaGreat

/- The laws' own helpers on lists of numbers. Own work. -/
namespace Go.Proofs.YtldafgbhjpfboaaGreat
open Go.RowKit
set_option maxHeartbeats 2000000

theorem info_Int : (Tryz.prog.info? 3).map (fun i => (i.zero, i.size, i.bytes)) = some (some (.int .i64 0), 1, 8) := by kernel_rfl

end Go.Proofs.YtldafgbhjpfboaaGreat

/- liesFor, impl.PathLies. Own work. -/
namespace Go.Proofs.YtldafgbhjpfboaaGreat
open Go.RowKit
set_option maxHeartbeats 8000000

/-- A list of lies, cell by cell. -/
def lieCells (ps : List (Int × Int)) : List Value := ps.flatMap fun p => [.int .i64 p.1, .int .i64 p.2]
theorem infoLie : (Tryz.prog.info? 39).map (fun i => (i.zero, i.size, i.bytes)) = some (some (.agg #[.int .i64 0, .int .i64 0]), 2, 16) := by kernel_rfl

/-- What between tells, in one form. -/
def BQ (N : Nt) (s t : Int × Int) (x y : Int) (ok : Bool) : Prop :=
  (ok = false ∧ wantP N s t = none) ∨ (ok = true ∧ ∃ (j : Nat) (hj : j < N.jts.length), x = j ∧ wantP N s t = some (j, y) ∧ (N.jts[j].kind = 3 → ¬ y = 0) ∧ (¬ y = 0 → N.jts[j].kind = 3) ∧ 0 ≤ y ∧ y ≤ 2)
theorem between_one (a a' : Option Addr) (N : Nt) (cap cap' m n : Nat) (s1 s2 t1 t2 : Int) (w : World) (hright : netOk N = (0, 0)) (hn : N.pcs.length ≤ 1048576) (hs : stepOk N.pcs.length (s1, s2) = true) (ht : stepOk N.pcs.length (t1, t2) = true) (hJ : JtsAt w a' N.jts) (hSE : SE w m n (seatTo N.jts N.jts.length)) :
    Calls Tryz.prog 52 #[.agg #[.slice a N.pcs.length cap, .slice a' N.jts.length cap', .map (some m)], .agg #[.int .i64 s1, .int .i64 s2], .agg #[.int .i64 t1, .int .i64 t2]] w fun e w' =>
    ∃ (x y : Int) (ok : Bool), e = .returned (.tuple #[.agg #[.int .i64 x, .int .i64 y], .bool ok]) ∧ BQ N (s1, s2) (t1, t2) x y ok ∧ Below w.heap.size w w' := by
  refine (between_any a a' N cap cap' m n s1 s2 t1 t2 w hright hn hs ht hJ hSE).mono ?_
  rintro e w' ⟨⟨h, rfl⟩ | ⟨j, l, hj, h1, h2, h3, h4, h5, rfl⟩, hb⟩
  · exact ⟨0, 0, false, rfl, .inl ⟨rfl, h⟩, hb⟩
  · exact ⟨j, l, true, rfl, .inr ⟨rfl, j, hj, rfl, h1, h2, h3, h4, h5⟩, hb⟩

/-- Between two rounds of liesFor: the layout in block bl, what is known in block bk; nothing of this lies from bs on. -/
structure LF (w wr : World) (bl bk bs m n : Nat) (N : Nt) (v0 v1 : Value) (kn : Nat → Int) : Prop where
  c0 : wr.cell? ⟨bl, 0, none⟩ = some v0
  c1 : wr.cell? ⟨bl, 1, none⟩ = some v1
  c2 : wr.cell? ⟨bl, 2, none⟩ = some (.map (some m))
  row : ∃ f, wr.rowIs bk 3 N.jts.length f ∧ ∀ j, j < N.jts.length → f j = .int .i64 (kn j)
  se : SE wr m n (seatTo N.jts N.jts.length)
  below : Below w.heap.size w wr
  size : bs ≤ wr.heap.size
  wl : w.heap.size ≤ bl
  wk : w.heap.size ≤ bk
  lk : bl < bk
  ks : bk < bs
  ms : m < bs
  mne : m ≠ bk
  ml : m ≠ bl

theorem LF.later {w wr w2 : World} {bl bk bs m n : Nat} {N : Nt} {v0 v1 : Value} {kn : Nat → Int} (h : LF w wr bl bk bs m n N v0 v1 kn) (hb : Below wr.heap.size wr w2) : LF w w2 bl bk bs m n N v0 v1 kn where
  c0 := cell_later' hb h.c0
  c1 := cell_later' hb h.c1
  c2 := cell_later' hb h.c2
  row := by obtain ⟨f, hf, hk⟩ := h.row; exact ⟨f, hf.of_block (hb.block bk hf.lt), hk⟩
  se := h.se.of_block (hb.block m h.se.lt)
  below := h.below.trans (hb.mono h.below.size)
  size := Nat.le_trans h.size hb.size
  wl := h.wl
  wk := h.wk
  lk := h.lk
  ks := h.ks
  ms := h.ms
  mne := h.mne
  ml := h.ml

theorem LF.set {w wr : World} {bl bk bs m n : Nat} {N : Nt} {v0 v1 : Value} {kn : Nat → Int} (h : LF w wr bl bk bs m n N v0 v1 kn) (j : Nat) (l : Int) : LF w (wr.setCell ⟨bk, j, none⟩ (.int .i64 l)) bl bk bs m n N v0 v1 (fun i => if i = j then l else kn i) where
  c0 := by rw [World.cell?_setCell_far wr ⟨bk, j, none⟩ ⟨bl, 0, none⟩ _ (by have := h.lk; show bk ≠ bl; omega)]; exact h.c0
  c1 := by rw [World.cell?_setCell_far wr ⟨bk, j, none⟩ ⟨bl, 1, none⟩ _ (by have := h.lk; show bk ≠ bl; omega)]; exact h.c1
  c2 := by rw [World.cell?_setCell_far wr ⟨bk, j, none⟩ ⟨bl, 2, none⟩ _ (by have := h.lk; show bk ≠ bl; omega)]; exact h.c2
  row := by
    obtain ⟨f, hf, hk⟩ := h.row
    refine ⟨_, hf.set _ _, fun i hi => ?_⟩
    by_cases e : i = j
    · subst e; simp
    · simp [e, hk i hi]
  se := h.se.of_block (Below.heap_setCell _ _ _ _ h.mne)
  below := h.below.setCell (by show w.heap.size ≤ bk; exact h.wk) _
  size := by simpa using h.size
  wl := h.wl
  wk := h.wk
  lk := h.lk
  ks := h.ks
  ms := h.ms
  mne := h.mne
  ml := h.ml

theorem LF.grown {w wr w2 : World} {bl bk bs m n : Nat} {N : Nt} {v0 v1 : Value} {kn : Nat → Int} {row : Option Nat} (h : LF w wr bl bk bs m n N v0 v1 kn) (hg : wr.grownBy w2 row) (hrow : ∀ g, row = some g → bs ≤ g) : LF w w2 bl bk bs m n N v0 v1 kn := by
  have hne : ∀ B, B < bs → some B ≠ row := fun B hB e => by have := hrow B e.symm; omega
  have h1 := h.lk
  have h2 := h.ks
  have h3 := h.ms
  have h4 := h.wl
  have h5 := h.wk
  refine ⟨?_, ?_, ?_, ?_, ?_, h.below.grown hg h.below.size (fun k e => by have := hrow k e; omega), Nat.le_trans h.size hg.size, h.wl, h.wk, h.lk, h.ks, h.ms, h.mne, h.ml⟩
  · rw [hg.cell_far ⟨bl, 0, none⟩ (cell_lt h.c0) (hne _ (by show bl < bs; omega))]; exact h.c0
  · rw [hg.cell_far ⟨bl, 1, none⟩ (cell_lt h.c1) (hne _ (by show bl < bs; omega))]; exact h.c1
  · rw [hg.cell_far ⟨bl, 2, none⟩ (cell_lt h.c2) (hne _ (by show bl < bs; omega))]; exact h.c2
  · obtain ⟨f, hf, hk⟩ := h.row
    exact ⟨f, hf.of_block (hg.block bk hf.lt (hne _ h2)), hk⟩
  · exact h.se.of_block (hg.block m h.se.lt (hne _ h3))

/-- What liesFor tells. -/
def LiesR (N : Nt) (ss : List (Int × Int)) (base : Nat) (v : Value) (ok : Bool) (w' : World) : Prop :=
  (liesQ N ss = none ∧ v = .slice none 0 0 ∧ ok = false) ∨ (∃ out, liesQ N ss = some out ∧ ok = true ∧ out.length ≤ 400 ∧ w'.ownsRow base 39 2 v out.length (lieCells out))
end Go.Proofs.YtldafgbhjpfboaaGreat
