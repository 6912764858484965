/- The order of parts as the library's sort asks for it. Own work. -/
import Derived.Test.YtplnppdlabpodaaTcB
import Derived.Shelf.SlSortCmp.WholeK
namespace Go.Proofs.Ytplnppdlabpodaa
open Go.RowKit Go.Sort Go.Proofs
set_option maxHeartbeats 1000000

theorem ltByP (x y : Prt) : ltOf byP x y = decide (x.1 < y.1 ∨ (x.1 = y.1 ∧ x.2.1 < y.2.1)) := by
  unfold ltOf byP or2 cmpI
  rw [Bool.eq_iff_iff, decide_eq_true_eq, decide_eq_true_eq]
  split <;> (try split) <;> (try split) <;> (try split) <;> omega

theorem swoByP : SWO (ltOf byP) where
  irrefl x := by rw [ltByP]; simp
  trans x y z h1 h2 := by
    rw [ltByP, decide_eq_true_eq] at *
    omega
  ntrans x y z h1 h2 := by
    rw [ltByP, decide_eq_false_iff_not] at *
    omega

/-- A part's three cells. -/
def encP (x : Prt) : List Value := [.int .i64 x.1, .int .i64 x.2.1, .int .i64 x.2.2]

theorem cmpLaysP (blk off size : Nat) (w : World) : CmpLays Try.prog 125 #[] encP 3 byP blk off size w :=
  fun _ _ _ _ x y => byBegin_any x y _

theorem sorted_of {d : Array Prt} (h : SortedIn (ltOf byP) 0 d.size d) : Sorted d.toList := by
  intro i j hi hj hij
  simp at hi hj
  simp only [Array.getElem_toList]
  by_cases e : i = j
  · subst e
    right
    omega
  · have h' := h i j (Nat.zero_le _) (by omega) hj
    rw [ltByP, decide_eq_false_iff_not, getElem!_pos d j hj, getElem!_pos d i hi] at h'
    unfold leP
    omega

theorem perm_of {d d' : Array Prt} (h : PermIn 0 d.size d d') : d.toList.Perm d'.toList := by
  have h2 := h.2.2
  have e1 : d.extract 0 d.size = d := by simp
  have e2 : d'.extract 0 d.size = d' := by rw [← h.1]; simp
  rw [e1, e2] at h2
  exact h2.symm
end Go.Proofs.Ytplnppdlabpodaa
