/- Stretch, plain. Own work. -/
import Derived.Test.YtldafgbhjpfboaaMxAJ
import Derived.Test.YtldafgbhjpfboaaMxAT
import Derived.Test.YtldafgbhjpfboaaMxAB
import Derived.Test.YtldafgbhjpfboaaMxAE
import Derived.Test.YtldafgbhjpfboaaMxAM
import Derived.Test.YtldafgbhjpfboaaMxAC
namespace Go.Proofs.Ytldafgbhjpfboaa
set_option maxHeartbeats 1000000

/-- Where a path's step begins. -/
def atStep (N : Nt) (q a wy : Int) (ss : List (Int × Int)) (i : Nat) : Int × Int × Int := if i = 0 then (q, a, wy) else enterP N (headP ss[i]!.1 (-ss[i]!.2))
/-- How far is gone on from a spot, on its piece. -/
def goP (N : Nt) (left : Int) (s : Int × Int × Int) : Int := if roomP N s.1 s.2.1 s.2.2 > left then left else roomP N s.1 s.2.1 s.2.2
/-- What is left, and the parts, behind so many steps. -/
def strTo (N : Nt) (q a wy far : Int) (ss : List (Int × Int)) : Nat → Int × List Prt
  | 0 => (far, [])
  | i + 1 => ((strTo N q a wy far ss i).1 - goP N (strTo N q a wy far ss i).1 (atStep N q a wy ss i),
      (strTo N q a wy far ss i).2 ++ [partP (atStep N q a wy ss i).1 (atStep N q a wy ss i).2.1 ((atStep N q a wy ss i).2.1 + goP N (strTo N q a wy far ss i).1 (atStep N q a wy ss i) * (atStep N q a wy ss i).2.2)])
def StrOk (N : Nt) (ok : Bool) (far : Int) (ss : List (Int × Int)) (q a wy : Int) : Prop :=
  ok = true ∧ netOk N = (0, 0) ∧ spotP N q a wy = true ∧ inR far 0 1000000 = true ∧ ss.length ≠ 0 ∧ ss[0]! = (q, wy) ∧ stepsP N ss = true ∧ liesTo N ss (ss.length - 1) ≠ none
instance (N : Nt) (ok : Bool) (far : Int) (ss : List (Int × Int)) (q a wy : Int) : Decidable (StrOk N ok far ss q a wy) := by unfold StrOk; infer_instance
def stretchP (N : Nt) (ok : Bool) (far : Int) (ss : List (Int × Int)) (q a wy : Int) : List Prt :=
  if StrOk N ok far ss q a wy then (if (strTo N q a wy far ss ss.length).1 > 0 then [] else (strTo N q a wy far ss ss.length).2) else []

theorem str_not {N : Nt} {ok : Bool} {far : Int} {ss : List (Int × Int)} {q a wy : Int} (h : ¬ StrOk N ok far ss q a wy) : stretchP N ok far ss q a wy = [] := if_neg h
theorem str_left {N : Nt} {ok : Bool} {far : Int} {ss : List (Int × Int)} {q a wy : Int} (h : StrOk N ok far ss q a wy) (hl : (strTo N q a wy far ss ss.length).1 > 0) : stretchP N ok far ss q a wy = [] := by unfold stretchP; rw [if_pos h, if_pos hl]
theorem str_all {N : Nt} {ok : Bool} {far : Int} {ss : List (Int × Int)} {q a wy : Int} (h : StrOk N ok far ss q a wy) (hl : ¬ (strTo N q a wy far ss ss.length).1 > 0) : stretchP N ok far ss q a wy = (strTo N q a wy far ss ss.length).2 := by unfold stretchP; rw [if_pos h, if_neg hl]
theorem strTo_len (N : Nt) (q a wy far : Int) (ss : List (Int × Int)) (i : Nat) : (strTo N q a wy far ss i).2.length = i := by
  induction i with
  | zero => rfl
  | succ i ih => simp [strTo, ih]
theorem steps_at {N : Nt} {ss : List (Int × Int)} (h : stepsP N ss = true) {i : Nat} (hi : i < ss.length) : stepOk N.pcs.length ss[i]! = true := by
  simp only [stepsP, Bool.and_eq_true, List.all_eq_true] at h
  have : ss[i]! = ss[i] := by simp [hi]
  rw [this]
  exact h.2 _ (List.getElem_mem hi)
theorem steps_few {N : Nt} {ss : List (Int × Int)} (h : stepsP N ss = true) : ss.length ≤ 400 := by
  simp only [stepsP, Bool.and_eq_true, decide_eq_true_eq] at h
  exact h.1
theorem atStep_spot {N : Nt} {ss : List (Int × Int)} {q a wy : Int} (hr : netOk N = (0, 0)) (hs : spotP N q a wy = true) (h : stepsP N ss = true) {i : Nat} (hi : i < ss.length) : spotP N (atStep N q a wy ss i).1 (atStep N q a wy ss i).2.1 (atStep N q a wy ss i).2.2 = true := by
  unfold atStep
  split
  · exact hs
  · exact enterP_ok hr (stepOk_ends (steps_at h hi)).2
theorem goP_bd {N : Nt} {left : Int} {s : Int × Int × Int} (h : spotP N s.1 s.2.1 s.2.2 = true) (hl : 0 ≤ left) : 0 ≤ goP N left s ∧ goP N left s ≤ left ∧ goP N left s ≤ roomP N s.1 s.2.1 s.2.2 := by
  have := room_spot h
  unfold goP
  split <;> omega
theorem strTo_bd {N : Nt} {ss : List (Int × Int)} {q a wy far : Int} (hr : netOk N = (0, 0)) (hs : spotP N q a wy = true) (h : stepsP N ss = true) (hf : 0 ≤ far) {i : Nat} (hi : i ≤ ss.length) : 0 ≤ (strTo N q a wy far ss i).1 ∧ (strTo N q a wy far ss i).1 ≤ far := by
  induction i with
  | zero => exact ⟨hf, Int.le_refl _⟩
  | succ i ih =>
    have h1 := ih (by omega)
    have h2 := goP_bd (left := (strTo N q a wy far ss i).1) (atStep_spot hr hs h (show i < ss.length by omega)) h1.1
    simp only [strTo]
    omega
end Go.Proofs.Ytldafgbhjpfboaa

namespace Go.Proofs.Ytldafgbhjpfboaa
open Go.RowKit
set_option maxHeartbeats 1000000

end Go.Proofs.Ytldafgbhjpfboaa
