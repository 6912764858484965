/- impl.inOrder, impl.Touch. Own work. -/
import Derived.Test.YtplnppdlabpodaaTcC
import Derived.Test.YtplnppdlabpodaaTcD
import Derived.Test.YtplnppdlabpodaaShT
import Derived.Test.YtplnppdlabpodaaDrS
namespace Go.Proofs.Ytplnppdlabpodaa
open Go.RowKit Go.Sort Go.Proofs
set_option maxHeartbeats 2000000

theorem cells_parts {w : World} {b o : Nat} {ps : List Prt} (h : PartsAt w (some ⟨b, o, none⟩) ps) : ∀ j u, (partCells ps)[j]? = some u → w.cell? ⟨b, o + j, none⟩ = some u := by
  induction ps generalizing o with
  | nil => intro j u hu; simp [partCells] at hu
  | cons x l ih =>
    intro j u hu
    obtain ⟨b', o', e, c0, c1, c2⟩ := h 0 (by simp)
    obtain ⟨rfl, rfl⟩ : b = b' ∧ o = o' := by simpa using e
    simp only [Nat.zero_mul, Nat.add_zero, List.getElem_cons_zero] at c0 c1 c2
    have hc : partCells (x :: l) = .int .i64 x.1 :: .int .i64 x.2.1 :: .int .i64 x.2.2 :: partCells l := by simp [partCells]
    rw [hc] at hu
    match j, hu with
    | 0, hu => simp at hu; subst hu; exact c0
    | 1, hu => simp at hu; subst hu; exact c1
    | 2, hu => simp at hu; subst hu; exact c2
    | j + 3, hu =>
      simp at hu
      have := ih (parts_tail h) j u hu
      rw [show o + (j + 3) = o + 3 + j by omega]
      exact this

theorem partCells_len (ps : List Prt) : (partCells ps).length = ps.length * 3 := by
  induction ps with
  | nil => rfl
  | cons x l ih => simp only [partCells, List.flatMap_cons, List.length_append, List.length_cons, List.length_nil] at ih ⊢; omega
theorem partCells_one (ps : List Prt) : ∀ u ∈ partCells ps, u.oneCell' = true := by
  intro u hu
  simp [partCells] at hu
  obtain ⟨_, _, _, _, h⟩ := hu
  rcases h with rfl | rfl | rfl <;> rfl
end Go.Proofs.Ytplnppdlabpodaa
