/- asItLies; what happens at a joint. Own work. -/
import Derived.Test.YtncanhbmbjoamacGreatMxAR
namespace Go.Proofs.YtncanhbmbjoamacGreat
open Go.RowKit
set_option maxHeartbeats 4000000

end Go.Proofs.YtncanhbmbjoamacGreat

/- What happens at a joint; enter. Own work. -/
namespace Go.Proofs.YtncanhbmbjoamacGreat
open Go.RowKit
set_option maxHeartbeats 4000000

theorem acr_pos {n : Nat} {j : Jt} {i : Nat} (h3 : jb3 n j = false) (hk : ¬ j.kind = 1) (_hi : i < j.ends.length) : 0 < (acr j i).length := by
  obtain ⟨hk', hl⟩ := jb3_len h3
  have hkk : j.kind = 2 ∨ j.kind = 3 ∨ j.kind = 4 := by omega
  rcases hkk with h | h | h
  · have hlen : 1 - i < j.ends.length := by omega
    simp [acr, h, hlen]
  · by_cases h0 : i = 0
    · have h1 : 1 < j.ends.length := by omega
      simp [acr, h, h0, h1]
    · have h1 : 0 < j.ends.length := by omega
      simp [acr, h, h0, h1]
  · have h1 : (if i = 0 then 1 else if i = 1 then 0 else if i = 2 then 3 else 2) < j.ends.length := by split <;> (try split) <;> (try split) <;> omega
    simp [acr, h, h1]

theorem acr_tip {n : Nat} {j : Jt} (h3 : jb3 n j = false) (hk : j.kind = 3) : ∃ e f, acr j 0 = [e, f] ∧ j.ends[1]? = some e ∧ j.ends[2]? = some f := by
  obtain ⟨hk', hl⟩ := jb3_len h3
  have h1 : 1 < j.ends.length := by omega
  have h2 : 2 < j.ends.length := by omega
  exact ⟨j.ends[1], j.ends[2], by simp [acr, hk, h1, h2], by simp [h1], by simp [h2]⟩

/-- What is told of a way over a joint. -/
def PassQ (j : Jt) (h : Int × Int) (i : Nat) (x : Int) (e : Ending) (w w' : World) : Prop :=
  ∃ e1 e2 : Int, e = .returned (.tuple #[.agg #[.int .i64 e1, .int .i64 e2], .int .i64 (overP j h i x).2]) ∧ ((overP j h i x).2 = 0 → (overP j h i x).1 = (e1, e2)) ∧ Below w.heap.size w w'

end Go.Proofs.YtncanhbmbjoamacGreat
