/- From the reading of the arguments to how they lie in memory. Own work. -/
import Derived.Test.YteapmddadieohaaMxAA
import Derived.DeepKeys4
import Derived.Deep.Slices
import Derived.Deep.Strs
import Derived.Lib.SmallJoins
import Derived.ChangeSame
import Derived.ProofKit
import Derived.Test.YteapmddadieohaaMxAE
import Derived.Test.YteapmddadieohaaMxAI
import Derived.Deep.RegionHeld3
import Derived.Deep.DeepCutAuto
namespace Go.Proofs.Yteapmddadieohaa
open Go.RowKit Go.Joins Go.Deep Go.WideShapes Go.ChangeShapes
set_option maxRecDepth 100000

theorem list_of {α : Type} {P : Nat → α → Prop} (n : Nat) (h : ∀ i, i < n → ∃ x, P i x) : ∃ l : List α, l.length = n ∧ ∀ i (hi : i < l.length), P i l[i] := by
  induction n with
  | zero => exact ⟨[], rfl, fun i hi => by simp at hi⟩
  | succ n ih =>
    obtain ⟨l, hl, hp⟩ := ih (fun i hi => h i (by omega))
    obtain ⟨x, hx⟩ := h n (by omega)
    refine ⟨l ++ [x], by simp [hl], fun i hi => ?_⟩
    by_cases e : i < l.length
    · rw [List.getElem_append_left e]; exact hp i e
    · have : i = l.length := by simp at hi; omega
      subst this
      rw [List.getElem_append_right (Nat.le_refl _)]
      simp only [Nat.sub_self, List.getElem_singleton, hl]
      exact hx

theorem cellsI : Try.prog.cellsOf 3 = 1 := by kernel_rfl
theorem cellsStr : Try.prog.cellsOf 9 = 1 := by kernel_rfl
section
variable {H : Type} {enc : TypeId × Value → H} {w : World} {spare : Nat → Bool} {held : Bool}

end
end Go.Proofs.Yteapmddadieohaa

/- What SpotOk and Turn answer; boxes of three numbers (taken out of StB, LwS, LwT). Own work. -/
namespace Go.Proofs.Yteapmddadieohaa
open Go.RowKit
set_option maxHeartbeats 2000000

def spotOkP (N : Nt) (q at' way : Int) : Bool := decide (netOk N = (0, 0)) && spotP N q at' way
/-- What Turn answers. -/
def turnP (N : Nt) (q at' way : Int) : Int × Int × Int := if spotOkP N q at' way then (q, at', -way) else (0, 0, 0)
theorem spotOk_way {N : Nt} {q at' way : Int} (h : spotOkP N q at' way = true) : way = 1 ∨ way = -1 := by
  simp [spotOkP, spotP] at h
  omega
/-- impl.SpotOk answers as it should. -/
def SpotOkDone : Prop := ∀ (a a' : Option Addr) (N : Nt) (cap cap' : Nat) (q at' way : Int) (w : World), Wf3 q at' way → N.pcs.length ≤ 1048576 → (∀ p ∈ N.pcs, p.name.size ≤ 1048576) → N.jts.length ≤ 1048576 → (∀ j ∈ N.jts, j.name.size ≤ 1048576 ∧ j.ends.length ≤ 1048576) → PcsAt w a N.pcs → JtsAt w a' N.jts →
    Calls Try.prog 24 #[.agg #[.slice a N.pcs.length cap, .slice a' N.jts.length cap'], .agg #[.int .i64 q, .int .i64 at', .int .i64 way]] w fun e w' => e = .returned (.bool (spotOkP N q at' way)) ∧ Below w.heap.size w w'
/-- impl.Turn answers as it should. -/
def TurnDone : Prop := ∀ (a a' : Option Addr) (N : Nt) (cap cap' : Nat) (q at' way : Int) (w : World), Wf3 q at' way → N.pcs.length ≤ 1048576 → (∀ p ∈ N.pcs, p.name.size ≤ 1048576) → N.jts.length ≤ 1048576 → (∀ j ∈ N.jts, j.name.size ≤ 1048576 ∧ j.ends.length ≤ 1048576) → PcsAt w a N.pcs → JtsAt w a' N.jts →
    Calls Try.prog 14 #[.agg #[.slice a N.pcs.length cap, .slice a' N.jts.length cap'], .agg #[.int .i64 q, .int .i64 at', .int .i64 way]] w fun e w' => e = .returned (.agg #[.int .i64 (turnP N q at' way).1, .int .i64 (turnP N q at' way).2.1, .int .i64 (turnP N q at' way).2.2]) ∧ Below w.heap.size w w'
/-- A struct of three zeros that was made, none of its cells frozen. -/
abbrev Zero3 (w : World) (b : Nat) : Prop := (w.cell? ⟨b, 0, none⟩ = some (.int .i64 0) ∧ w.cell? ⟨b, 1, none⟩ = some (.int .i64 0) ∧ w.cell? ⟨b, 2, none⟩ = some (.int .i64 0)) ∧ w.frozen? ⟨b, 0, none⟩ = false ∧ w.frozen? ⟨b, 1, none⟩ = false ∧ w.frozen? ⟨b, 2, none⟩ = false
theorem Zero3.new (w : World) (T : TypeId) : Zero3 (w.alloc (.cells #[.int .i64 0, .int .i64 0, .int .i64 0] T)) w.heap.size :=
  ⟨⟨by simp [go_sem], by simp [go_sem], by simp [go_sem]⟩, by simp [go_sem], by simp [go_sem], by simp [go_sem]⟩
theorem Zero3.later {w w' : World} {b : Nat} (h : Zero3 w b) (hb : Below w.heap.size w w') : Zero3 w' b := by
  have hl := cell_lt h.1.1
  refine ⟨⟨cell_later' hb h.1.1, cell_later' hb h.1.2.1, cell_later' hb h.1.2.2⟩, ?_, ?_, ?_⟩
  · rw [hb.frozen (p := ⟨b, 0, none⟩) hl]; exact h.2.1
  · rw [hb.frozen (p := ⟨b, 1, none⟩) hl]; exact h.2.2.1
  · rw [hb.frozen (p := ⟨b, 2, none⟩) hl]; exact h.2.2.2
/-- What lies in a box of three. -/
abbrev In3 (w : World) (b : Nat) (x y z : Int) : Prop := w.cell? ⟨b, 0, none⟩ = some (.int .i64 x) ∧ w.cell? ⟨b, 1, none⟩ = some (.int .i64 y) ∧ w.cell? ⟨b, 2, none⟩ = some (.int .i64 z)
theorem In3.later {w w' : World} {b : Nat} {x y z : Int} (h : In3 w b x y z) (hb : Below w.heap.size w w') : In3 w' b x y z := ⟨cell_later' hb h.1, cell_later' hb h.2.1, cell_later' hb h.2.2⟩
theorem In3.put {w : World} {b : Nat} (h : Zero3 w b) (x y z : Int) : In3 (((w.setCell ⟨b, 0, none⟩ (.int .i64 x)).setCell ⟨b, 1, none⟩ (.int .i64 y)).setCell ⟨b, 2, none⟩ (.int .i64 z)) b x y z := by
  obtain ⟨⟨h0, h1, h2⟩, _⟩ := h
  exact ⟨by simp [go_sem, h0], by simp [go_sem, h1], by simp [go_sem, h2]⟩
theorem keepSet {w w1 w2 : World} {v0 v1 : Value} {q at' way : Int} {b : Nat} (h : LS w w1 w2 v0 v1 q at' way) (hb : w1.heap.size ≤ b) (hz : w.heap.size + 1 < w1.heap.size) (x y z : Value) :
    LS w w1 (((w2.setCell ⟨b, 0, none⟩ x).setCell ⟨b, 1, none⟩ y).setCell ⟨b, 2, none⟩ z) v0 v1 q at' way := by
  obtain ⟨⟨h0, h1, h2, h3, h4⟩, hB⟩ := h
  have e : ∀ (W : World) (o : Nat) (v : Value) (B i : Nat) (u : Value), B < b → W.cell? ⟨B, i, none⟩ = some u → (W.setCell ⟨b, o, none⟩ v).cell? ⟨B, i, none⟩ = some u := fun W o v B i u hB hu => by
    rw [World.cell?_setCell_far W ⟨b, o, none⟩ ⟨B, i, none⟩ v (by show b ≠ B; omega)]; exact hu
  exact ⟨⟨e _ _ _ _ _ _ (by omega) (e _ _ _ _ _ _ (by omega) (e _ _ _ _ _ _ (by omega) h0)), e _ _ _ _ _ _ (by omega) (e _ _ _ _ _ _ (by omega) (e _ _ _ _ _ _ (by omega) h1)), e _ _ _ _ _ _ (by omega) (e _ _ _ _ _ _ (by omega) (e _ _ _ _ _ _ (by omega) h2)), e _ _ _ _ _ _ (by omega) (e _ _ _ _ _ _ (by omega) (e _ _ _ _ _ _ (by omega) h3)), e _ _ _ _ _ _ (by omega) (e _ _ _ _ _ _ (by omega) (e _ _ _ _ _ _ (by omega) h4))⟩, ((hB.out.setCell hb _).setCell hb _).setCell hb _⟩
theorem keepSet2 {w w1 w2 : World} {v0 v1 u0 u1 : Value} {q at' way : Int} {b c : Nat} (h : LS2 w w1 w2 v0 v1 q at' way c u0 u1) (hb : w1.heap.size ≤ b) (hz : w.heap.size + 1 < w1.heap.size) (hc : c < w1.heap.size) (x y z : Value) :
    LS2 w w1 (((w2.setCell ⟨b, 0, none⟩ x).setCell ⟨b, 1, none⟩ y).setCell ⟨b, 2, none⟩ z) v0 v1 q at' way c u0 u1 := by
  have e : ∀ (W : World) (o : Nat) (v : Value) (B i : Nat) (u : Value), B < b → W.cell? ⟨B, i, none⟩ = some u → (W.setCell ⟨b, o, none⟩ v).cell? ⟨B, i, none⟩ = some u := fun W o v B i u hB hu => by
    rw [World.cell?_setCell_far W ⟨b, o, none⟩ ⟨B, i, none⟩ v (by show b ≠ B; omega)]; exact hu
  exact ⟨keepSet h.1 hb hz x y z, e _ _ _ _ _ _ (by omega) (e _ _ _ _ _ _ (by omega) (e _ _ _ _ _ _ (by omega) h.2.1)), e _ _ _ _ _ _ (by omega) (e _ _ _ _ _ _ (by omega) (e _ _ _ _ _ _ (by omega) h.2.2))⟩
end Go.Proofs.Yteapmddadieohaa
