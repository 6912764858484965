/- The laws' own helpers on lists of parts. Own work. -/
import Derived.Test.YtldafgbhjpfboaaTo
import Derived.Deep.RegionWith
import Derived.Test.YtldafgbhjpfboaaMxAA
import Derived.Deep.QuietTactic
import Derived.BigQuiet
namespace Go.Proofs.Ytldafgbhjpfboaa
open Go.RowKit
set_option maxHeartbeats 2000000

/-- A list of parts in memory. -/
def PartsAt (w : World) (a : Option Addr) (ps : List (Int × Int × Int)) : Prop :=
  ∀ k (_ : k < ps.length), ∃ b off, a = some ⟨b, off, none⟩ ∧ w.cell? ⟨b, off + k * 3, none⟩ = some (.int .i64 ps[k].1) ∧ w.cell? ⟨b, off + k * 3 + 1, none⟩ = some (.int .i64 ps[k].2.1) ∧ w.cell? ⟨b, off + k * 3 + 2, none⟩ = some (.int .i64 ps[k].2.2)
theorem PartsAt.later {w w' : World} {a ps} (h : PartsAt w a ps) (hb : Below w.heap.size w w') : PartsAt w' a ps := by
  intro k hk
  obtain ⟨b, off, ha, h1, h2, h3⟩ := h k hk
  exact ⟨b, off, ha, cell_later' hb h1, cell_later' hb h2, cell_later' hb h3⟩

end Go.Proofs.Ytldafgbhjpfboaa

/- spec.PartsLen, spec.Touch. Own work. -/
namespace Go.Proofs.Ytldafgbhjpfboaa
open Go.RowKit
set_option maxHeartbeats 2000000

abbrev Prt := Int × Int × Int
def partOk (p : Prt) : Bool := inR p.1 0 99 && inR p.2.1 0 10000000 && inR p.2.2 p.2.1 10000000
def partsOkP (ps : List Prt) : Bool := ps.all partOk && decide (ps.length ≤ 10000)
def lenSum (ps : List Prt) : Int := ps.foldl (fun n p => n + (p.2.2 - p.2.1)) 0
def partsLenP (ps : List Prt) : Int := if partsOkP ps = true then lenSum ps else -1
def meets (x y : Prt) : Bool := (x.1 == y.1) && decide (x.2.1 ≤ y.2.2) && decide (y.2.1 ≤ x.2.2)
def touchP (a b : List Prt) : Bool := partsOkP a && partsOkP b && a.any (fun x => b.any (meets x))

theorem lenSum_succ (ps : List Prt) (k : Nat) (hk : k < ps.length) : lenSum (ps.take (k + 1)) = lenSum (ps.take k) + (ps[k].2.2 - ps[k].2.1) := by
  unfold lenSum
  rw [List.take_succ_eq_append_getElem hk, List.foldl_append]
  rfl

theorem part_bounds {p : Prt} (h : partOk p = true) : (0 ≤ p.1 ∧ p.1 ≤ 99) ∧ (0 ≤ p.2.1 ∧ p.2.1 ≤ 10000000) ∧ p.2.1 ≤ p.2.2 ∧ p.2.2 ≤ 10000000 := by
  simp only [partOk, inR, Bool.and_eq_true, decide_eq_true_eq] at h
  omega

theorem ok_at {ps : List Prt} (h : partsOkP ps = true) (k : Nat) (hk : k < ps.length) : partOk ps[k] = true := by
  simp only [partsOkP, Bool.and_eq_true, List.all_eq_true] at h
  exact h.1 _ (List.getElem_mem hk)

theorem lenSum_bound {ps : List Prt} (h : partsOkP ps = true) (k : Nat) (hk : k ≤ ps.length) : 0 ≤ lenSum (ps.take k) ∧ lenSum (ps.take k) ≤ k * 10000000 := by
  induction k with
  | zero => simp [lenSum]
  | succ k ih =>
    rw [lenSum_succ _ _ (by omega)]
    have := ih (by omega)
    have := part_bounds (ok_at h k (by omega))
    omega

theorem l1in_a {x a b : Int} {r : Bool} (h : inR x a b = r) (w : World) : Calls Try.prog 56 #[.int .i64 x, .int .i64 a, .int .i64 b] w fun e w' =>
    e = .returned (.bool r) ∧ w = w' := (l1in_any x a b w).mono fun _ _ h' => ⟨by rw [h'.1, h], h'.2⟩

end Go.Proofs.Ytldafgbhjpfboaa
