import Derived.Test.YtjagfeihmnagkaaGreatDoorAcA
import Derived.Test.YtjagfeihmnagkaaGreatDoorMxAH
namespace Go.Proofs.YtjagfeihmnagkaaGreatDoor
open Go.RowKit
set_option maxHeartbeats 1000000

theorem jb3_len {n : Nat} {j : Jt} (h : jb3 n j = false) : (1 ≤ j.kind ∧ j.kind ≤ 4) ∧ (j.ends.length : Int) = j.kind := by
  refine ⟨jb3_kind h, ?_⟩
  simp only [jb3, Bool.or_eq_false_iff] at h
  simpa using h.1.2

end Go.Proofs.YtjagfeihmnagkaaGreatDoor

namespace Go.Proofs.YtjagfeihmnagkaaGreatDoor
open Go.RowKit
set_option maxHeartbeats 2000000

/-- Over the joint j from the place i of it, with switches as xs: the end, the code. -/
def overP (j : Jt) (e : Int × Int) (i : Nat) (x : Int) : (Int × Int) × Int :=
  if j.kind = 1 then (e, 1)
  else if j.kind = 3 ∧ x = 0 then (e, 2)
  else if j.kind = 3 ∧ i = 0 then ((j.ends[x.toNat]?).getD (0, 0), 0)
  else if j.kind = 3 ∧ (i : Int) ≠ x then (e, 3)
  else (((acr j i)[0]?).getD (0, 0), 0)

end Go.Proofs.YtjagfeihmnagkaaGreatDoor
