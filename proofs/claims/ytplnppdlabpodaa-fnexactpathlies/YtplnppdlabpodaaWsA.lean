/- spec.l4lies. Own work. -/
import Derived.Test.YtplnppdlabpodaaWaD
import Derived.Test.YtplnppdlabpodaaWaE
import Derived.Test.YtplnppdlabpodaaMxAC
import Derived.Test.YtplnppdlabpodaaStC
import Derived.Laws.BitsLemmas
namespace Go.Proofs.Ytplnppdlabpodaa
open Go.RowKit
set_option maxHeartbeats 8000000

theorem l1at_right (a a' : Option Addr) (N : Nt) (cap cap' : Nat) (p s : Int) (w : World) (hl : N.jts.length ≤ 1048576) (hm : ∀ j ∈ N.jts, j.ends.length ≤ 1048576) (hr : netOk N = (0, 0)) (he : endOk N.pcs.length (p, s) = true) (hj : JtsAt w a' N.jts) :
    Calls Try.prog 80 #[.agg #[.slice a N.pcs.length cap, .slice a' N.jts.length cap'], .agg #[.int .i64 p, .int .i64 s]] w fun e w' =>
    ∃ j i : Nat, e = .returned (.tuple #[.int .i64 j, .int .i64 i]) ∧ At N.jts (p, s) j i ∧ Below w.heap.size w w' := by
  refine (l1at_any a a' N.pcs.length cap cap' N.jts p s w hl hm hj).mono ?_
  rintro e w' ⟨x, y, rfl, h, hb⟩
  rcases h with ⟨j, i, rfl, rfl, h⟩ | h
  · exact ⟨j, i, rfl, h, hb⟩
  · obtain ⟨j, i, hat⟩ := at_of_uses (js := N.jts) (e := (p, s)) (by rw [uses_right hr he]; exact Nat.le_refl _)
    exact absurd hat (h j i)

/-- What is owned as a row of lies is a list in memory. -/
theorem lieCells_at (ps : List (Int × Int)) : ∀ k (hk : k < ps.length), (lieCells ps)[k * 2]? = some (.int .i64 ps[k].1) ∧ (lieCells ps)[k * 2 + 1]? = some (.int .i64 ps[k].2) := by
  induction ps with
  | nil => intro k hk; simp at hk
  | cons p ps ih =>
    intro k hk
    have e : lieCells (p :: ps) = .int .i64 p.1 :: .int .i64 p.2 :: lieCells ps := rfl
    rw [e]
    cases k with
    | zero => exact ⟨rfl, rfl⟩
    | succ k =>
      have := ih k (by simpa using hk)
      have e3 : (k + 1) * 2 = k * 2 + 1 + 1 := by omega
      rw [e3]
      simpa using this
theorem lies_of_owns {w : World} {base : Nat} {e : TypeId} {v : Value} {ps : List (Int × Int)} (h : w.ownsRow base e 2 v ps.length (lieCells ps)) :
    (v = .slice none 0 0 ∧ ps = []) ∨ ∃ b cap, v = .slice (some ⟨b, 0, none⟩) ps.length cap ∧ base ≤ b ∧ ps.length ≤ cap ∧ EndsAt w (some ⟨b, 0, none⟩) ps ∧ Row w b e (cap * 2) := by
  rcases h.2 with ⟨hv, h0⟩ | ⟨g, cap, cur, hv, hb, hg, hn, _, hsz, htk⟩
  · exact .inl ⟨hv, List.eq_nil_of_length_eq_zero h0⟩
  · refine .inr ⟨g, cap, hv, hb, hn, ?_, ?_⟩
    · have hcell : ∀ j, j < ps.length * 2 → w.cell? ⟨g, j, none⟩ = (lieCells ps)[j]? := by
        intro j hj
        rw [hv] at h
        exact h.cellAt j hj
      intro k hk
      obtain ⟨p0, p1⟩ := lieCells_at ps k hk
      refine ⟨g, 0, rfl, ?_, ?_⟩
      · rw [Nat.zero_add, hcell _ (by omega), p0]
      · rw [Nat.zero_add, hcell _ (by omega), p1]
    · exact ⟨fun i => cur[i]!, cur, hg, hsz, fun i hi => by simp [hsz, hi]⟩
theorem lies_shape {w : World} {base : Nat} {e : TypeId} {v : Value} {ps : List (Int × Int)} (h : w.ownsRow base e 2 v ps.length (lieCells ps)) : ∃ z zc, v = .slice z ps.length zc ∧ EndsAt w z ps := by
  rcases lies_of_owns h with ⟨rfl, rfl⟩ | ⟨b, cap, rfl, _, _, h1, _⟩
  · exact ⟨none, 0, rfl, fun k hk => by simp at hk⟩
  · exact ⟨_, cap, rfl, h1⟩

/-- Between two rounds of l4lies. -/
structure SB (w wr : World) (v0 v1 : Value) : Prop where
  n0 : wr.cell? ⟨w.heap.size, 0, none⟩ = some v0
  n1 : wr.cell? ⟨w.heap.size, 1, none⟩ = some v1
  below : Below w.heap.size w wr
theorem SB.later {w w1 w2 : World} {v0 v1 : Value} (h : SB w w1 v0 v1) (hb : Below w1.heap.size w1 w2) : SB w w2 v0 v1 :=
  ⟨cell_later' hb h.n0, cell_later' hb h.n1, h.below.trans (hb.mono h.below.size)⟩
theorem SB.grown {w w1 w2 : World} {v0 v1 : Value} {row : Option Nat} (h : SB w w1 v0 v1) (hg : w1.grownBy w2 row) (hrow : ∀ g, row = some g → w.heap.size + 1 ≤ g) : SB w w2 v0 v1 := by
  have hne : some w.heap.size ≠ row := fun e => by have := hrow _ e.symm; omega
  refine ⟨?_, ?_, h.below.grown hg h.below.size (fun k e => by have := hrow k e; omega)⟩
  · rw [hg.cell_far ⟨w.heap.size, 0, none⟩ (cell_lt h.n0) hne]; exact h.n0
  · rw [hg.cell_far ⟨w.heap.size, 1, none⟩ (cell_lt h.n1) hne]; exact h.n1

/-- The two steps that a round reads. -/
abbrev SG (wr wx : World) (sb o1 o2 : Nat) (s1 s2 t1 t2 : Int) : Prop :=
  (wx.cell? ⟨sb, o1, none⟩ = some (.int .i64 s1) ∧ wx.cell? ⟨sb, o1 + 1, none⟩ = some (.int .i64 s2) ∧ wx.cell? ⟨sb, o2, none⟩ = some (.int .i64 t1) ∧ wx.cell? ⟨sb, o2 + 1, none⟩ = some (.int .i64 t2)) ∧ Hid (Below wr.heap.size wr wx)
theorem keepSG {wr w2 w3 : World} {sb o1 o2 : Nat} {s1 s2 t1 t2 : Int} (hb : Below w2.heap.size w2 w3) (h : SG wr w2 sb o1 o2 s1 s2 t1 t2) : SG wr w3 sb o1 o2 s1 s2 t1 t2 :=
  ⟨⟨cell_later' hb h.1.1, cell_later' hb h.1.2.1, cell_later' hb h.1.2.2.1, cell_later' hb h.1.2.2.2⟩, h.2.out.trans (hb.mono h.2.out.size)⟩
theorem putSG {wr w2 : World} {sb o1 o2 : Nat} {s1 s2 t1 t2 : Int} {b : Nat} (hb : wr.heap.size ≤ b) (h2 : sb < wr.heap.size) (h : SG wr w2 sb o1 o2 s1 s2 t1 t2) (x y : Value) : SG wr ((w2.setCell ⟨b, 0, none⟩ x).setCell ⟨b, 1, none⟩ y) sb o1 o2 s1 s2 t1 t2 := by
  have e : ∀ (W : World) (o : Nat) (v : Value) (i : Nat) (u : Value), W.cell? ⟨sb, i, none⟩ = some u → (W.setCell ⟨b, o, none⟩ v).cell? ⟨sb, i, none⟩ = some u := fun W o v i u hu => by
    rw [World.cell?_setCell_far W ⟨b, o, none⟩ ⟨sb, i, none⟩ v (by show b ≠ sb; omega)]; exact hu
  exact ⟨⟨e _ _ _ _ _ (e _ _ _ _ _ h.1.1), e _ _ _ _ _ (e _ _ _ _ _ h.1.2.1), e _ _ _ _ _ (e _ _ _ _ _ h.1.2.2.1), e _ _ _ _ _ (e _ _ _ _ _ h.1.2.2.2)⟩, (h.2.out.setCell (by show wr.heap.size ≤ b; omega) _).setCell (by show wr.heap.size ≤ b; omega) _⟩

theorem take_any_succ {l : List (Int × Int)} {p : Nat} (hp : p < l.length) (f : Int × Int → Bool) : (l.take (p + 1)).any f = ((l.take p).any f || f l[p]) := by
  rw [List.take_succ_eq_append_getElem hp, List.any_append]; simp
end Go.Proofs.Ytplnppdlabpodaa
