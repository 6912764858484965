/- Two sorted lists of parts: whether a part of the one and a part of the other meet. Own work. -/
import Derived.Test.YtplnppdlabpodaaPtS
namespace Go.Proofs.Ytplnppdlabpodaa

/-- x lies ahead of y, without a common place. -/
def aheadP (x y : Prt) : Bool := decide (x.1 < y.1) || ((x.1 == y.1) && decide (x.2.2 < y.2.1))
/-- y is not ahead of x by piece and begin. -/
def leP (x y : Prt) : Prop := x.1 < y.1 ∨ (x.1 = y.1 ∧ x.2.1 ≤ y.2.1)
/-- In order, place by place. -/
def Sorted (l : List Prt) : Prop := ∀ i j (hi : i < l.length) (hj : j < l.length), i ≤ j → leP l[i] l[j]

theorem meets_ahead {x y y' : Prt} (h : aheadP x y = true) (hl : leP y y') : meets x y' = false := by
  unfold leP at hl
  unfold aheadP at h
  simp only [Bool.or_eq_true, Bool.and_eq_true, decide_eq_true_eq, beq_iff_eq] at h
  have : ¬ (x.1 = y'.1 ∧ y'.2.1 ≤ x.2.2) := by omega
  rw [Bool.eq_false_iff]
  intro hm
  unfold meets at hm
  simp only [Bool.and_eq_true, decide_eq_true_eq, beq_iff_eq] at hm
  exact this ⟨hm.1.1, hm.2⟩

theorem meets_comm (x y : Prt) : meets x y = meets y x := by
  rw [Bool.eq_iff_iff]
  simp only [meets, Bool.and_eq_true, decide_eq_true_eq, beq_iff_eq]
  omega

theorem meets_neither {x y : Prt} (h : aheadP x y = false) (h' : aheadP y x = false) : meets x y = true := by
  unfold aheadP at h h'
  simp only [Bool.or_eq_false_iff, Bool.and_eq_false_iff, decide_eq_false_iff_not, beq_eq_false_iff_ne, ne_eq] at h h'
  simp only [meets, Bool.and_eq_true, decide_eq_true_eq, beq_iff_eq]
  omega

def anyMeets (a b : List Prt) : Bool := a.any fun x => b.any (meets x)

theorem anyMeets_iff (a b : List Prt) : anyMeets a b = true ↔ ∃ x ∈ a, ∃ y ∈ b, meets x y = true := by
  simp [anyMeets, List.any_eq_true]

theorem anyMeets_left {a b : List Prt} {i k : Nat} (hi : i < a.length) (hk : k < b.length) (hb : Sorted b) (h : aheadP a[i] b[k] = true) : anyMeets (a.drop i) (b.drop k) = anyMeets (a.drop (i + 1)) (b.drop k) := by
  rw [Bool.eq_iff_iff, anyMeets_iff, anyMeets_iff, List.drop_eq_getElem_cons hi]
  constructor
  · rintro ⟨x, hx, y, hy, hm⟩
    rcases List.mem_cons.1 hx with rfl | hx
    · obtain ⟨n, hn, rfl⟩ := List.getElem_of_mem hy
      rw [List.getElem_drop] at hm
      rw [meets_ahead h (hb k (k + n) hk (by simp at hn; omega) (by omega))] at hm
      cases hm
    · exact ⟨x, hx, y, hy, hm⟩
  · rintro ⟨x, hx, y, hy, hm⟩
    exact ⟨x, List.mem_cons_of_mem _ hx, y, hy, hm⟩

theorem anyMeets_swap (a b : List Prt) : anyMeets a b = anyMeets b a := by
  rw [Bool.eq_iff_iff, anyMeets_iff, anyMeets_iff]
  constructor
  · rintro ⟨x, hx, y, hy, hm⟩
    exact ⟨y, hy, x, hx, by rw [meets_comm]; exact hm⟩
  · rintro ⟨x, hx, y, hy, hm⟩
    exact ⟨y, hy, x, hx, by rw [meets_comm]; exact hm⟩

theorem anyMeets_right {a b : List Prt} {i k : Nat} (hi : i < a.length) (hk : k < b.length) (ha : Sorted a) (h : aheadP b[k] a[i] = true) : anyMeets (a.drop i) (b.drop k) = anyMeets (a.drop i) (b.drop (k + 1)) := by
  rw [anyMeets_swap, anyMeets_left hk hi ha h, anyMeets_swap]

theorem anyMeets_here {a b : List Prt} {i k : Nat} (hi : i < a.length) (hk : k < b.length) (h : aheadP a[i] b[k] = false) (h' : aheadP b[k] a[i] = false) : anyMeets (a.drop i) (b.drop k) = true := by
  rw [anyMeets_iff]
  exact ⟨a[i], by rw [List.drop_eq_getElem_cons hi]; exact List.mem_cons_self, b[k], by rw [List.drop_eq_getElem_cons hk]; exact List.mem_cons_self, meets_neither h h'⟩

theorem anyMeets_end {a b : List Prt} {i k : Nat} (h : a.length ≤ i ∨ b.length ≤ k) : anyMeets (a.drop i) (b.drop k) = false := by
  rcases h with h | h
  · rw [List.drop_eq_nil_of_le h]; rfl
  · rw [List.drop_eq_nil_of_le h, anyMeets_swap]; rfl

theorem anyMeets_perm {a a' b b' : List Prt} (ha : a.Perm a') (hb : b.Perm b') : anyMeets a b = anyMeets a' b' := by
  rw [Bool.eq_iff_iff, anyMeets_iff, anyMeets_iff]
  constructor
  · rintro ⟨x, hx, y, hy, hm⟩
    exact ⟨x, ha.mem_iff.1 hx, y, hb.mem_iff.1 hy, hm⟩
  · rintro ⟨x, hx, y, hy, hm⟩
    exact ⟨x, ha.mem_iff.2 hx, y, hb.mem_iff.2 hy, hm⟩

theorem touchP_any (a b : List Prt) (ha : partsOkP a = true) (hb : partsOkP b = true) : touchP a b = anyMeets a b := by simp [touchP, ha, hb, anyMeets]
end Go.Proofs.Ytplnppdlabpodaa
