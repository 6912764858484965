import Derived.Test.YtplnppdlabpodaaAcA
namespace Go.Proofs.Ytplnppdlabpodaa
open Go.RowKit
set_option maxHeartbeats 1000000

theorem jb3_len {n : Nat} {j : Jt} (h : jb3 n j = false) : (1 ≤ j.kind ∧ j.kind ≤ 4) ∧ (j.ends.length : Int) = j.kind := by
  refine ⟨jb3_kind h, ?_⟩
  simp only [jb3, Bool.or_eq_false_iff] at h
  simpa using h.1.2

theorem l1across_any (n : Nat) (j : Jt) (a : Option Addr) (cap i : Nat) (w : World) (h3 : jb3 n j = false) (hi : i < j.ends.length) (h : EndsAt w a j.ends) :
    Calls Try.prog 82 #[.agg #[.int .i64 j.kind, .string j.name, .slice a j.ends.length cap], .int .i64 i] w fun e w' =>
    ∃ v, e = .returned v ∧ NewEnds w.heap.size w' v (acr j i) ∧ Below w.heap.size w w' := by
  obtain ⟨hk, hl⟩ := jb3_len h3
  clear h3
  obtain ⟨kind, name, ends⟩ := j
  simp only at hk hl hi h
  have hkk : kind = 1 ∨ kind = 2 ∨ kind = 3 ∨ kind = 4 := by omega
  rcases hkk with rfl | rfl | rfl | rfl
  · match ends, (show ends.length = 1 by omega) with
    | [e0], _ =>
      have hii : i = 0 := by simp at hi; omega
      subst hii
      exact l1across_1_0 name a cap e0 w h
  · match ends, (show ends.length = 2 by omega) with
    | [e0, e1], _ =>
      have hii : i = 0 ∨ i = 1 := by simp at hi; omega
      rcases hii with rfl | rfl
      · exact l1across_2_0 name a cap e0 e1 w h
      · exact l1across_2_1 name a cap e0 e1 w h
  · match ends, (show ends.length = 3 by omega) with
    | [e0, e1, e2], _ =>
      have hii : i = 0 ∨ i = 1 ∨ i = 2 := by simp at hi; omega
      rcases hii with rfl | rfl | rfl
      · exact l1across_3_0 name a cap e0 e1 e2 w h
      · exact l1across_3_1 name a cap e0 e1 e2 w h
      · exact l1across_3_2 name a cap e0 e1 e2 w h
  · match ends, (show ends.length = 4 by omega) with
    | [e0, e1, e2, e3], _ =>
      have hii : i = 0 ∨ i = 1 ∨ i = 2 ∨ i = 3 := by simp at hi; omega
      rcases hii with rfl | rfl | rfl | rfl
      · exact l1across_4_0 name a cap e0 e1 e2 e3 w h
      · exact l1across_4_1 name a cap e0 e1 e2 e3 w h
      · exact l1across_4_2 name a cap e0 e1 e2 e3 w h
      · exact l1across_4_3 name a cap e0 e1 e2 e3 w h
end Go.Proofs.Ytplnppdlabpodaa
