/- A heap, plain. Own work. -/
import Derived.Test.YtncanhbmbjoamacGreatWyP
import Derived.Test.YtncanhbmbjoamacGreatWyR
import Derived.Test.YtncanhbmbjoamacGreatMxAK
namespace Go.Proofs.YtncanhbmbjoamacGreat
section
variable {α : Type} (le : α → α → Prop)

/-- Is at a place below n. -/
def HMem (f : Nat → α) (n : Nat) (y : α) : Prop := ∃ k, k < n ∧ f k = y
def swapF (f : Nat → α) (i j : Nat) : Nat → α := fun k => if k = i then f j else if k = j then f i else f k
/-- In a heap's order, but for the place i against the one above it. -/
def HeapUp (f : Nat → α) (n i : Nat) : Prop := (∀ j, 0 < j → j < n → j ≠ i → le (f ((j - 1) / 2)) (f j)) ∧ (0 < i → ∀ j, 0 < j → j < n → (j - 1) / 2 = i → le (f ((i - 1) / 2)) (f j))
/-- But for the place i against those below it. -/
def HeapDown (f : Nat → α) (n i : Nat) : Prop := (∀ j, 0 < j → j < n → (j - 1) / 2 ≠ i → le (f ((j - 1) / 2)) (f j)) ∧ (0 < i → ∀ j, 0 < j → j < n → (j - 1) / 2 = i → le (f ((i - 1) / 2)) (f j))
def HeapOk (f : Nat → α) (n : Nat) : Prop := ∀ j, 0 < j → j < n → le (f ((j - 1) / 2)) (f j)

theorem swap_mem (f : Nat → α) {n i j : Nat} (hi : i < n) (hj : j < n) (y : α) : HMem (swapF f i j) n y ↔ HMem f n y := by
  constructor
  · rintro ⟨k, hk, e⟩
    unfold swapF at e
    split at e
    · exact ⟨j, hj, e⟩
    · split at e
      · exact ⟨i, hi, e⟩
      · exact ⟨k, hk, e⟩
  · rintro ⟨k, hk, e⟩
    by_cases h1 : k = i
    · refine ⟨j, hj, ?_⟩
      unfold swapF
      subst h1
      split
      · rename_i h; rw [h]; exact e
      · rw [if_pos rfl]; exact e
    · by_cases h2 : k = j
      · subst h2
        exact ⟨i, hi, by simp [swapF, e]⟩
      · exact ⟨k, hk, by simp [swapF, h1, h2, e]⟩

variable {le}
theorem heapUp_push {f : Nat → α} {n : Nat} (h : HeapOk le f n) : HeapUp le f (n + 1) n :=
  ⟨fun j h0 h1 h2 => h j h0 (by omega), fun _ j h0 h1 h2 => by omega⟩
theorem heapUp_done {f : Nat → α} {n i : Nat} (h : HeapUp le f n i) (hd : i = 0 ∨ le (f ((i - 1) / 2)) (f i)) : HeapOk le f n := by
  intro j h0 h1
  by_cases e : j = i
  · subst e
    rcases hd with hd | hd
    · omega
    · exact hd
  · exact h.1 j h0 h1 e
theorem heapUp_swap (tr : ∀ a b c, le a b → le b c → le a c) {f : Nat → α} {n i : Nat} (h : HeapUp le f n i) (h0 : 0 < i) (hi : i < n) (hl : le (f i) (f ((i - 1) / 2))) : HeapUp le (swapF f ((i - 1) / 2) i) n ((i - 1) / 2) := by
  have hp : (i - 1) / 2 < i := by omega
  generalize hg : (i - 1) / 2 = p at *
  constructor
  · intro j j0 j1 j2
    unfold swapF
    by_cases e : j = i
    · subst e
      rw [hg, if_pos rfl, if_neg (by omega), if_pos rfl]
      exact hl
    · by_cases e1 : (j - 1) / 2 = p
      · rw [if_pos e1, if_neg j2, if_neg e]
        have := h.1 j j0 j1 e
        rw [e1] at this
        exact tr _ _ _ hl this
      · by_cases e2 : (j - 1) / 2 = i
        · rw [if_neg e1, if_pos e2, if_neg j2, if_neg e]
          have := h.2 h0 j j0 j1 e2
          rw [hg] at this
          exact this
        · rw [if_neg e1, if_neg e2, if_neg j2, if_neg e]
          exact h.1 j j0 j1 e
  · intro p0 j j0 j1 j2
    have hpp := h.1 p p0 (by omega) (by omega)
    unfold swapF
    rw [if_neg (by omega), if_neg (by omega)]
    by_cases e : j = i
    · subst e
      rw [if_neg (by omega), if_pos rfl]
      exact hpp
    · rw [if_neg (by omega), if_neg e]
      have := h.1 j j0 j1 e
      rw [j2] at this
      exact tr _ _ _ hpp this

/-- The last one is laid at the top. -/
def popF (f : Nat → α) (n : Nat) : Nat → α := fun k => if k = 0 then f n else f k
theorem heapDown_pop {f : Nat → α} {n : Nat} (h : HeapOk le f (n + 1)) : HeapDown le (popF f n) n 0 := by
  constructor
  · intro j j0 j1 j2
    unfold popF
    rw [if_neg j2, if_neg (by omega)]
    exact h j j0 (by omega)
  · intro h0; omega
theorem pop_mem {f : Nat → α} {n : Nat} (y : α) : HMem f (n + 1) y ↔ y = f 0 ∨ HMem (popF f n) n y := by
  constructor
  · rintro ⟨k, hk, e⟩
    by_cases h0 : k = 0
    · subst h0; exact .inl e.symm
    · by_cases hn : k = n
      · subst hn
        exact .inr ⟨0, by omega, by simp [popF, e]⟩
      · exact .inr ⟨k, by omega, by simp [popF, h0, e]⟩
  · rintro (e | ⟨k, hk, e⟩)
    · exact ⟨0, by omega, e.symm⟩
    · unfold popF at e
      split at e
      · exact ⟨n, by omega, e⟩
      · exact ⟨k, by omega, e⟩
theorem heap_top (rf : ∀ a, le a a) (tr : ∀ a b c, le a b → le b c → le a c) {f : Nat → α} {n : Nat} (h : HeapOk le f n) : ∀ k, k < n → le (f 0) (f k) := by
  intro k
  induction k using Nat.strongRecOn with
  | ind k ih =>
    intro hk
    by_cases h0 : k = 0
    · subst h0; exact rf _
    · exact tr _ _ _ (ih ((k - 1) / 2) (by omega) (by omega)) (h k (by omega) hk)
theorem heapDown_done {f : Nat → α} {n i : Nat} (h : HeapDown le f n i) (hd : ∀ j, 0 < j → j < n → (j - 1) / 2 = i → le (f i) (f j)) : HeapOk le f n := by
  intro j j0 j1
  by_cases e : (j - 1) / 2 = i
  · have := hd j j0 j1 e
    rw [e]; exact this
  · exact h.1 j j0 j1 e
theorem heapDown_swap {f : Nat → α} {n i m : Nat} (h : HeapDown le f n i) (hm0 : 0 < m) (hm : m < n) (hmi : (m - 1) / 2 = i) (hl : le (f m) (f i)) (hall : ∀ j, 0 < j → j < n → (j - 1) / 2 = i → le (f m) (f j)) : HeapDown le (swapF f m i) n m := by
  have him : i < m := by omega
  constructor
  · intro j j0 j1 j2
    unfold swapF
    rw [if_neg j2]
    by_cases e : j = m
    · subst e
      rw [if_pos hmi, if_pos rfl]
      exact hl
    · rw [if_neg e]
      by_cases e1 : (j - 1) / 2 = i
      · rw [if_pos e1, if_neg (by omega)]
        exact hall j j0 j1 e1
      · rw [if_neg e1]
        by_cases e2 : j = i
        · rw [if_pos e2]
          subst e2
          exact h.2 j0 m hm0 hm hmi
        · rw [if_neg e2]
          exact h.1 j j0 j1 e1
  · intro _ j j0 j1 j2
    unfold swapF
    rw [hmi, if_neg (by omega), if_pos rfl, if_neg (by omega), if_neg (by omega)]
    have := h.1 j j0 j1 (by omega)
    rw [j2] at this
    exact this
end
end Go.Proofs.YtncanhbmbjoamacGreat

/- A right net as a graph. Own work. -/
namespace Go.Proofs.YtncanhbmbjoamacGreat
set_option maxHeartbeats 1000000

/-- The ends behind the joint at an end. -/
def nxP (N : Nt) (e : Int × Int) : List (Int × Int) := if h : seatJ N e < N.jts.length then acr N.jts[seatJ N e] (seatI N e) else []
theorem nx_at {N : Nt} (hr : netOk N = (0, 0)) {e : Int × Int} {j i : Nat} (h : At N.jts e j i) (hj : j < N.jts.length) : nxP N e = acr N.jts[j] i := by
  obtain ⟨e1, e2⟩ := seat_of_at hr h
  unfold nxP
  subst e1
  subst e2
  rw [dif_pos hj]
theorem lenAt_pos {N : Nt} (hr : netOk N = (0, 0)) (p : Int) (h0 : 0 ≤ p) (h1 : p < N.pcs.length) : 1 ≤ lenAt N p ∧ lenAt N p ≤ 10000000 := by
  obtain ⟨k, rfl⟩ := Int.eq_ofNat_of_zero_le h0
  have hk : k < N.pcs.length := by omega
  have h2 := (right_facts hr).2.1 k hk
  rw [pcBad_eq hk] at h2
  have e : lenAt N (k : Int) = N.pcs[k].len := lenAt_nat N k hk
  rw [e]
  simp only [Bool.or_eq_false_iff, Bool.not_eq_false', Pc.ok, Bool.and_eq_true, inR, decide_eq_true_eq] at h2
  omega
def grN (N : Nt) (hr : netOk N = (0, 0)) : Gr where
  n := N.pcs.length
  nx := nxP N
  len := lenAt N
  ok := fun h e he => by
    unfold nxP at he
    split at he
    · rename_i hj
      exact mem_ends_ok hr hj (acr_sub he)
    · simp at he
  pos := fun p h0 h1 => lenAt_pos hr p h0 h1

theorem swap_leW {a b : Wy} : leW a b ↔ lessW b a = false := Iff.rfl
/-- A three-way answer for two ways. -/
def CmpW (a b : Wy) (c : Int) : Prop := (c < 0 ↔ lessW a b = true) ∧ (0 < c ↔ lessW b a = true)
theorem CmpW.le {a b : Wy} {c : Int} (h : CmpW a b c) : c ≤ 0 ↔ leW a b := by
  unfold leW
  have := h.2
  cases hl : lessW b a
  · rw [hl] at this
    simp at this
    simp [this]
  · rw [hl] at this
    simp at this
    simp
    omega
end Go.Proofs.YtncanhbmbjoamacGreat
