/- How switches have to lie for steps: plain. Own work. -/
import Derived.Test.YtijdigdcmjdooaaGreatMxAJ
import Derived.Test.YtijdigdcmjdooaaGreatMxAE
import Derived.Test.YtijdigdcmjdooaaGreatMxAG
import Derived.Test.YtijdigdcmjdooaaGreatWyR
import Derived.Test.YtijdigdcmjdooaaGreatMxAD
import Derived.Test.YtijdigdcmjdooaaGreatMxAH
namespace Go.Proofs.YtijdigdcmjdooaaGreat

def seatJ (N : Nt) (e : Int × Int) : Nat := ((seatTo N.jts N.jts.length e).getD (0, 0, 0)).1.toNat
def seatI (N : Nt) (e : Int × Int) : Nat := ((seatTo N.jts N.jts.length e).getD (0, 0, 0)).2.1.toNat

theorem seat_look {N : Nt} (hr : netOk N = (0, 0)) {e : Int × Int} (he : endOk N.pcs.length e = true) : ∃ t, (seatTo N.jts N.jts.length e).getD (0, 0, 0) = ((seatJ N e : Int), (seatI N e : Int), t) ∧ At N.jts e (seatJ N e) (seatI N e) := by
  have hsi := seatIs_right hr e
  have hsome : (seatTo N.jts N.jts.length e).isSome = true := by
    cases hs : (seatTo N.jts N.jts.length e).isSome
    · rw [hs] at hsi
      exact absurd ⟨hr, he⟩ (hsi.2 rfl)
    · rfl
  obtain ⟨_, j, i, hj1, hi1, hat⟩ := hsi.1 hsome
  have ej : seatJ N e = j := by unfold seatJ; rw [hj1]; simp
  have ei : seatI N e = i := by unfold seatI; rw [hi1]; simp
  rw [ej, ei]
  refine ⟨((seatTo N.jts N.jts.length e).getD (0, 0, 0)).2.2, ?_, hat⟩
  rw [← hj1, ← hi1]

theorem seat_of_at {N : Nt} (hr : netOk N = (0, 0)) {e : Int × Int} {j i : Nat} (h : At N.jts e j i) : seatJ N e = j ∧ seatI N e = i := by
  obtain ⟨_, _, h2⟩ := seat_look hr (endOk_of_at (right_facts hr).2.2.1 h)
  exact at_one hr h2 h

/-- Over which joint one comes from a step to the next, and how it has to lie: 0 where it is no switch. -/
def wantP (N : Nt) (a b : Int × Int) : Option (Nat × Int) :=
  match N.jts[seatJ N (headP a.1 a.2)]? with
  | none => none
  | some J => if headP b.1 (-b.2) ∈ acr J (seatI N (headP a.1 a.2)) then some (seatJ N (headP a.1 a.2), if J.kind = 3 then (seatI N (headP a.1 a.2) : Int) + (seatI N (headP b.1 (-b.2)) : Int) else 0) else none

theorem want_no {N : Nt} (hr : netOk N = (0, 0)) {a b : Int × Int} {j k : Nat} (h : At N.jts (headP a.1 a.2) j k) (hj : j < N.jts.length) (hn : ¬ headP b.1 (-b.2) ∈ acr N.jts[j] k) : wantP N a b = none := by
  obtain ⟨h1, h2⟩ := seat_of_at hr h
  unfold wantP
  rw [h1, h2, List.getElem?_eq_getElem hj]
  simp [hn]
theorem want_0 {N : Nt} (hr : netOk N = (0, 0)) {a b : Int × Int} {j k : Nat} (h : At N.jts (headP a.1 a.2) j k) (hj : j < N.jts.length) (hn : headP b.1 (-b.2) ∈ acr N.jts[j] k) (hk : ¬ N.jts[j].kind = 3) : wantP N a b = some (j, 0) := by
  obtain ⟨h1, h2⟩ := seat_of_at hr h
  unfold wantP
  rw [h1, h2, List.getElem?_eq_getElem hj]
  simp [hn, hk]
theorem want_3 {N : Nt} (hr : netOk N = (0, 0)) {a b : Int × Int} {j k j' m : Nat} (h : At N.jts (headP a.1 a.2) j k) (h' : At N.jts (headP b.1 (-b.2)) j' m) (hj : j < N.jts.length) (hn : headP b.1 (-b.2) ∈ acr N.jts[j] k) (hk : N.jts[j].kind = 3) : wantP N a b = some (j, (k : Int) + m) := by
  obtain ⟨h1, h2⟩ := seat_of_at hr h
  unfold wantP
  rw [h1, h2, List.getElem?_eq_getElem hj]
  simp [hn, hk, (seat_of_at hr h').2]

theorem tip_of {J : Jt} {k : Nat} {f : Int × Int} (hk : J.kind = 3) (h : f ∈ acr J k) : ∃ (m : Nat) (hm : m < J.ends.length), J.ends[m] = f ∧ ((k = 0 ∧ (m = 1 ∨ m = 2)) ∨ (¬ k = 0 ∧ m = 0)) := by
  have e2 : ¬ J.kind = 2 := by omega
  unfold acr at h
  rw [if_neg e2, if_pos hk] at h
  by_cases h0 : k = 0
  · rw [if_pos h0] at h
    simp only [List.mem_append, Option.mem_toList, List.getElem?_eq_some_iff] at h
    rcases h with ⟨hm, h⟩ | ⟨hm, h⟩
    · exact ⟨1, hm, h, .inl ⟨h0, .inl rfl⟩⟩
    · exact ⟨2, hm, h, .inl ⟨h0, .inr rfl⟩⟩
  · rw [if_neg h0] at h
    simp only [Option.mem_toList, List.getElem?_eq_some_iff] at h
    obtain ⟨hm, h⟩ := h
    exact ⟨0, hm, h, .inr ⟨h0, rfl⟩⟩

/-- At a switch one of the two ends is the tip. -/
theorem want_tip {N : Nt} (hr : netOk N = (0, 0)) {e f : Int × Int} {j k j' m : Nat} (h : At N.jts e j k) (h' : At N.jts f j' m) (hj : j < N.jts.length) (hn : f ∈ acr N.jts[j] k) (hk : N.jts[j].kind = 3) : (k = 0 ∧ (m = 1 ∨ m = 2)) ∨ (m = 0 ∧ (k = 1 ∨ k = 2)) := by
  obtain ⟨m', hm', he, hc⟩ := tip_of hk hn
  obtain ⟨_, rfl⟩ := at_one hr (show At N.jts f j m' from ⟨hj, hm', he⟩) h'
  obtain ⟨_, hkl, _⟩ := h
  have hl := (jb3_len (n := N.pcs.length) (j := N.jts[j]) (by rw [← jtBad3_jb3 hj]; exact (right_facts hr).2.2.1 j hj)).2
  omega

/-- How the switches have to lie that were met, and one more. -/
def lieAdd (out : List (Int × Int)) (j : Nat) (l : Int) : Option (List (Int × Int)) :=
  if l = 0 then some out else if out.any (fun y => y.1 == (j : Int) && y.2 != l) then none else if out.any (fun y => y.1 == (j : Int)) then some out else some (out ++ [((j : Int), l)])

def liesTo (N : Nt) (ss : List (Int × Int)) : Nat → Option (List (Int × Int))
  | 0 => some []
  | i + 1 => match liesTo N ss i with
    | none => none
    | some out => match wantP N ss[i]! ss[i + 1]! with
      | none => none
      | some (j, l) => lieAdd out j l

theorem liesTo_none {N : Nt} {ss : List (Int × Int)} {i : Nat} (h : liesTo N ss i = none) : ∀ k, liesTo N ss (i + k) = none := by
  intro k
  induction k with
  | zero => exact h
  | succ k ih =>
    show liesTo N ss (i + k + 1) = none
    unfold liesTo
    rw [ih]

theorem liesTo_succ {N : Nt} {ss : List (Int × Int)} {i : Nat} {out : List (Int × Int)} {j : Nat} {l : Int} (h : liesTo N ss i = some out) (hw : wantP N ss[i]! ss[i + 1]! = some (j, l)) : liesTo N ss (i + 1) = lieAdd out j l := by
  rw [liesTo, h]; simp only [hw]
theorem liesTo_no {N : Nt} {ss : List (Int × Int)} {i : Nat} {out : List (Int × Int)} (h : liesTo N ss i = some out) (hw : wantP N ss[i]! ss[i + 1]! = none) : liesTo N ss (i + 1) = none := by
  rw [liesTo, h]; simp only [hw]

theorem lieAdd_len {out out' : List (Int × Int)} {j : Nat} {l : Int} (h : lieAdd out j l = some out') : out'.length ≤ out.length + 1 := by
  unfold lieAdd at h
  split at h
  · cases h; omega
  · split at h
    · cases h
    · split at h <;> (cases h; simp)

/-- What is known of the joints, against the list of those that were met. -/
def KnownIs (N : Nt) (out : List (Int × Int)) (kn : Nat → Int) : Prop :=
  ∀ j (hj : j < N.jts.length), (kn j = 0 ∧ ∀ y ∈ out, ¬ y.1 = (j : Int)) ∨ (¬ kn j = 0 ∧ N.jts[j].kind = 3 ∧ ((j : Int), kn j) ∈ out ∧ ∀ y ∈ out, y.1 = (j : Int) → y.2 = kn j)

theorem known_nil (N : Nt) : KnownIs N [] (fun _ => 0) := fun _ _ => .inl ⟨rfl, fun y hy => by simp at hy⟩
theorem known_same {N : Nt} {out : List (Int × Int)} {kn : Nat → Int} (h : KnownIs N out kn) {j : Nat} (hj : j < N.jts.length) : lieAdd out j (kn j) = some out := by
  unfold lieAdd
  by_cases h0 : kn j = 0
  · rw [if_pos h0]
  · rw [if_neg h0]
    rcases h j hj with h | ⟨_, _, hm, hall⟩
    · exact absurd h.1 h0
    · have h1 : (out.any fun y => y.1 == (j : Int) && y.2 != kn j) = false := by
        rw [List.any_eq_false]
        intro y hy
        simp only [Bool.and_eq_true, beq_iff_eq, bne_iff_ne, ne_eq, not_and, Classical.not_not]
        exact hall y hy
      have h2 : (out.any fun y => y.1 == (j : Int)) = true := by
        rw [List.any_eq_true]
        exact ⟨_, hm, by simp⟩
      rw [h1, h2]; simp
theorem known_new {N : Nt} {out : List (Int × Int)} {kn : Nat → Int} (h : KnownIs N out kn) {j : Nat} (hj : j < N.jts.length) (h0 : kn j = 0) {l : Int} (hl : ¬ l = 0) (h3 : N.jts[j].kind = 3) :
    lieAdd out j l = some (out ++ [((j : Int), l)]) ∧ KnownIs N (out ++ [((j : Int), l)]) (fun i => if i = j then l else kn i) := by
  have hno : ∀ y ∈ out, ¬ y.1 = (j : Int) := by
    rcases h j hj with h | h
    · exact h.2
    · exact absurd h0 h.1
  constructor
  · unfold lieAdd
    rw [if_neg hl]
    have h1 : (out.any fun y => y.1 == (j : Int) && y.2 != l) = false := by
      rw [List.any_eq_false]
      intro y hy
      simp only [Bool.and_eq_true, beq_iff_eq, not_and]
      intro he
      exact absurd he (hno y hy)
    have h2 : (out.any fun y => y.1 == (j : Int)) = false := by
      rw [List.any_eq_false]
      intro y hy
      simp only [beq_iff_eq]
      exact hno y hy
    rw [h1, h2]; simp
  · intro i hi
    by_cases e : i = j
    · subst e
      refine .inr ⟨by simpa using hl, h3, by simp, ?_⟩
      intro y hy hy1
      rcases List.mem_append.1 hy with hy | hy
      · exact absurd hy1 (hno y hy)
      · have : y = ((i : Int), l) := by simpa using hy
        rw [this]; simp
    · have hne : ¬ ((j : Int) = (i : Int)) := by omega
      rcases h i hi with ⟨h1, h2⟩ | ⟨h1, h2, h4, h5⟩
      · refine .inl ⟨by simp only [if_neg e]; exact h1, ?_⟩
        intro y hy
        rcases List.mem_append.1 hy with hy | hy
        · exact h2 y hy
        · have : y = ((j : Int), l) := by simpa using hy
          rw [this]; exact hne
      · refine .inr ⟨by simp only [if_neg e]; exact h1, h2, ?_, ?_⟩
        · simp only [if_neg e]; exact List.mem_append_left _ h4
        · intro y hy hy1
          simp only [if_neg e]
          rcases List.mem_append.1 hy with hy | hy
          · exact h5 y hy hy1
          · have : y = ((j : Int), l) := by simpa using hy
            rw [this] at hy1; exact absurd hy1 hne
theorem known_not {N : Nt} {out : List (Int × Int)} {kn : Nat → Int} (h : KnownIs N out kn) {j : Nat} (hj : j < N.jts.length) (h0 : ¬ kn j = 0) {l : Int} (hl : ¬ kn j = l) (h3 : N.jts[j].kind = 3 → ¬ l = 0) : lieAdd out j l = none := by
  rcases h j hj with h | ⟨_, hk, hm, _⟩
  · exact absurd h.1 h0
  · unfold lieAdd
    rw [if_neg (h3 hk), if_pos]
    rw [List.any_eq_true]
    exact ⟨_, hm, by simpa using hl⟩

/-- A step of a net. -/
def stepOk (n : Nat) (s : Int × Int) : Bool := inR s.1 0 ((n : Int) - 1) && (s.2 == 1 || s.2 == -1)
theorem stepOk_ends {n : Nat} {s : Int × Int} (h : stepOk n s = true) : endOk n (headP s.1 s.2) = true ∧ endOk n (headP s.1 (-s.2)) = true := by
  simp only [stepOk, Bool.and_eq_true, inR, decide_eq_true_eq] at h
  constructor <;> (unfold headP endOk inR; split <;> (simp only [Bool.and_eq_true, decide_eq_true_eq]; omega))
def stepsP (N : Nt) (ss : List (Int × Int)) : Bool := decide (ss.length ≤ 400) && ss.all (stepOk N.pcs.length)
/-- PathLies, and whether the steps are such that switches can lie for them. -/
def liesQ (N : Nt) (ss : List (Int × Int)) : Option (List (Int × Int)) := if netOk N = (0, 0) ∧ stepsP N ss = true then liesTo N ss (ss.length - 1) else none
end Go.Proofs.YtijdigdcmjdooaaGreat

/- A heap, plain. Own work. -/
namespace Go.Proofs.YtijdigdcmjdooaaGreat
section
variable {α : Type} (le : α → α → Prop)

/-- Is at a place below n. -/
def HMem (f : Nat → α) (n : Nat) (y : α) : Prop := ∃ k, k < n ∧ f k = y
def swapF (f : Nat → α) (i j : Nat) : Nat → α := fun k => if k = i then f j else if k = j then f i else f k
/-- In a heap's order, but for the place i against the one above it. -/
def HeapUp (f : Nat → α) (n i : Nat) : Prop := (∀ j, 0 < j → j < n → j ≠ i → le (f ((j - 1) / 2)) (f j)) ∧ (0 < i → ∀ j, 0 < j → j < n → (j - 1) / 2 = i → le (f ((i - 1) / 2)) (f j))
/-- But for the place i against those below it. -/
def HeapDown (f : Nat → α) (n i : Nat) : Prop := (∀ j, 0 < j → j < n → (j - 1) / 2 ≠ i → le (f ((j - 1) / 2)) (f j)) ∧ (0 < i → ∀ j, 0 < j → j < n → (j - 1) / 2 = i → le (f ((i - 1) / 2)) (f j))
def HeapOk (f : Nat → α) (n : Nat) : Prop := ∀ j, 0 < j → j < n → le (f ((j - 1) / 2)) (f j)

theorem swap_mem (f : Nat → α) {n i j : Nat} (hi : i < n) (hj : j < n) (y : α) : HMem (swapF f i j) n y ↔ HMem f n y := by
  constructor
  · rintro ⟨k, hk, e⟩
    unfold swapF at e
    split at e
    · exact ⟨j, hj, e⟩
    · split at e
      · exact ⟨i, hi, e⟩
      · exact ⟨k, hk, e⟩
  · rintro ⟨k, hk, e⟩
    by_cases h1 : k = i
    · refine ⟨j, hj, ?_⟩
      unfold swapF
      subst h1
      split
      · rename_i h; rw [h]; exact e
      · rw [if_pos rfl]; exact e
    · by_cases h2 : k = j
      · subst h2
        exact ⟨i, hi, by simp [swapF, e]⟩
      · exact ⟨k, hk, by simp [swapF, h1, h2, e]⟩

variable {le}
theorem heapUp_push {f : Nat → α} {n : Nat} (h : HeapOk le f n) : HeapUp le f (n + 1) n :=
  ⟨fun j h0 h1 h2 => h j h0 (by omega), fun _ j h0 h1 h2 => by omega⟩
theorem heapUp_done {f : Nat → α} {n i : Nat} (h : HeapUp le f n i) (hd : i = 0 ∨ le (f ((i - 1) / 2)) (f i)) : HeapOk le f n := by
  intro j h0 h1
  by_cases e : j = i
  · subst e
    rcases hd with hd | hd
    · omega
    · exact hd
  · exact h.1 j h0 h1 e
theorem heapUp_swap (tr : ∀ a b c, le a b → le b c → le a c) {f : Nat → α} {n i : Nat} (h : HeapUp le f n i) (h0 : 0 < i) (hi : i < n) (hl : le (f i) (f ((i - 1) / 2))) : HeapUp le (swapF f ((i - 1) / 2) i) n ((i - 1) / 2) := by
  have hp : (i - 1) / 2 < i := by omega
  generalize hg : (i - 1) / 2 = p at *
  constructor
  · intro j j0 j1 j2
    unfold swapF
    by_cases e : j = i
    · subst e
      rw [hg, if_pos rfl, if_neg (by omega), if_pos rfl]
      exact hl
    · by_cases e1 : (j - 1) / 2 = p
      · rw [if_pos e1, if_neg j2, if_neg e]
        have := h.1 j j0 j1 e
        rw [e1] at this
        exact tr _ _ _ hl this
      · by_cases e2 : (j - 1) / 2 = i
        · rw [if_neg e1, if_pos e2, if_neg j2, if_neg e]
          have := h.2 h0 j j0 j1 e2
          rw [hg] at this
          exact this
        · rw [if_neg e1, if_neg e2, if_neg j2, if_neg e]
          exact h.1 j j0 j1 e
  · intro p0 j j0 j1 j2
    have hpp := h.1 p p0 (by omega) (by omega)
    unfold swapF
    rw [if_neg (by omega), if_neg (by omega)]
    by_cases e : j = i
    · subst e
      rw [if_neg (by omega), if_pos rfl]
      exact hpp
    · rw [if_neg (by omega), if_neg e]
      have := h.1 j j0 j1 e
      rw [j2] at this
      exact tr _ _ _ hpp this

/-- The last one is laid at the top. -/
def popF (f : Nat → α) (n : Nat) : Nat → α := fun k => if k = 0 then f n else f k
theorem heapDown_pop {f : Nat → α} {n : Nat} (h : HeapOk le f (n + 1)) : HeapDown le (popF f n) n 0 := by
  constructor
  · intro j j0 j1 j2
    unfold popF
    rw [if_neg j2, if_neg (by omega)]
    exact h j j0 (by omega)
  · intro h0; omega
theorem pop_mem {f : Nat → α} {n : Nat} (y : α) : HMem f (n + 1) y ↔ y = f 0 ∨ HMem (popF f n) n y := by
  constructor
  · rintro ⟨k, hk, e⟩
    by_cases h0 : k = 0
    · subst h0; exact .inl e.symm
    · by_cases hn : k = n
      · subst hn
        exact .inr ⟨0, by omega, by simp [popF, e]⟩
      · exact .inr ⟨k, by omega, by simp [popF, h0, e]⟩
  · rintro (e | ⟨k, hk, e⟩)
    · exact ⟨0, by omega, e.symm⟩
    · unfold popF at e
      split at e
      · exact ⟨n, by omega, e⟩
      · exact ⟨k, by omega, e⟩
theorem heap_top (rf : ∀ a, le a a) (tr : ∀ a b c, le a b → le b c → le a c) {f : Nat → α} {n : Nat} (h : HeapOk le f n) : ∀ k, k < n → le (f 0) (f k) := by
  intro k
  induction k using Nat.strongRecOn with
  | ind k ih =>
    intro hk
    by_cases h0 : k = 0
    · subst h0; exact rf _
    · exact tr _ _ _ (ih ((k - 1) / 2) (by omega) (by omega)) (h k (by omega) hk)
theorem heapDown_done {f : Nat → α} {n i : Nat} (h : HeapDown le f n i) (hd : ∀ j, 0 < j → j < n → (j - 1) / 2 = i → le (f i) (f j)) : HeapOk le f n := by
  intro j j0 j1
  by_cases e : (j - 1) / 2 = i
  · have := hd j j0 j1 e
    rw [e]; exact this
  · exact h.1 j j0 j1 e
theorem heapDown_swap {f : Nat → α} {n i m : Nat} (h : HeapDown le f n i) (hm0 : 0 < m) (hm : m < n) (hmi : (m - 1) / 2 = i) (hl : le (f m) (f i)) (hall : ∀ j, 0 < j → j < n → (j - 1) / 2 = i → le (f m) (f j)) : HeapDown le (swapF f m i) n m := by
  have him : i < m := by omega
  constructor
  · intro j j0 j1 j2
    unfold swapF
    rw [if_neg j2]
    by_cases e : j = m
    · subst e
      rw [if_pos hmi, if_pos rfl]
      exact hl
    · rw [if_neg e]
      by_cases e1 : (j - 1) / 2 = i
      · rw [if_pos e1, if_neg (by omega)]
        exact hall j j0 j1 e1
      · rw [if_neg e1]
        by_cases e2 : j = i
        · rw [if_pos e2]
          subst e2
          exact h.2 j0 m hm0 hm hmi
        · rw [if_neg e2]
          exact h.1 j j0 j1 e1
  · intro _ j j0 j1 j2
    unfold swapF
    rw [hmi, if_neg (by omega), if_pos rfl, if_neg (by omega), if_neg (by omega)]
    have := h.1 j j0 j1 (by omega)
    rw [j2] at this
    exact this
end
end Go.Proofs.YtijdigdcmjdooaaGreat

/- A right net as a graph. Own work. -/
namespace Go.Proofs.YtijdigdcmjdooaaGreat
set_option maxHeartbeats 1000000

/-- The ends behind the joint at an end. -/
def nxP (N : Nt) (e : Int × Int) : List (Int × Int) := if h : seatJ N e < N.jts.length then acr N.jts[seatJ N e] (seatI N e) else []
theorem nx_at {N : Nt} (hr : netOk N = (0, 0)) {e : Int × Int} {j i : Nat} (h : At N.jts e j i) (hj : j < N.jts.length) : nxP N e = acr N.jts[j] i := by
  obtain ⟨e1, e2⟩ := seat_of_at hr h
  unfold nxP
  subst e1
  subst e2
  rw [dif_pos hj]
theorem lenAt_pos {N : Nt} (hr : netOk N = (0, 0)) (p : Int) (h0 : 0 ≤ p) (h1 : p < N.pcs.length) : 1 ≤ lenAt N p ∧ lenAt N p ≤ 10000000 := by
  obtain ⟨k, rfl⟩ := Int.eq_ofNat_of_zero_le h0
  have hk : k < N.pcs.length := by omega
  have h2 := (right_facts hr).2.1 k hk
  rw [pcBad_eq hk] at h2
  have e : lenAt N (k : Int) = N.pcs[k].len := lenAt_nat N k hk
  rw [e]
  simp only [Bool.or_eq_false_iff, Bool.not_eq_false', Pc.ok, Bool.and_eq_true, inR, decide_eq_true_eq] at h2
  omega
def grN (N : Nt) (hr : netOk N = (0, 0)) : Gr where
  n := N.pcs.length
  nx := nxP N
  len := lenAt N
  ok := fun h e he => by
    unfold nxP at he
    split at he
    · rename_i hj
      exact mem_ends_ok hr hj (acr_sub he)
    · simp at he
  pos := fun p h0 h1 => lenAt_pos hr p h0 h1

theorem swap_leW {a b : Wy} : leW a b ↔ lessW b a = false := Iff.rfl
/-- A three-way answer for two ways. -/
def CmpW (a b : Wy) (c : Int) : Prop := (c < 0 ↔ lessW a b = true) ∧ (0 < c ↔ lessW b a = true)
theorem CmpW.le {a b : Wy} {c : Int} (h : CmpW a b c) : c ≤ 0 ↔ leW a b := by
  unfold leW
  have := h.2
  cases hl : lessW b a
  · rw [hl] at this
    simp at this
    simp [this]
  · rw [hl] at this
    simp at this
    simp
    omega
end Go.Proofs.YtijdigdcmjdooaaGreat

namespace Go.Proofs.YtijdigdcmjdooaaGreat
open Go.RowKit
set_option maxHeartbeats 1000000

theorem ta_1_2 (w : World) : (Instr.typeAssert (.iface 222 (.agg #[])) 190 193 true).run Tryz.prog w = .ok (.tuple #[.agg #[], .bool false]) w := by kernel_rfl
theorem ta_1_3 (w : World) : (Instr.typeAssert (.iface 222 (.agg #[])) 190 194 true).run Tryz.prog w = .ok (.tuple #[.agg #[], .bool false]) w := by kernel_rfl
theorem ta_1_4 (w : World) : (Instr.typeAssert (.iface 222 (.agg #[])) 190 195 true).run Tryz.prog w = .ok (.tuple #[.agg #[], .bool false]) w := by kernel_rfl
theorem ta_2_2 (w : World) : (Instr.typeAssert (.iface 193 (.agg #[])) 190 193 true).run Tryz.prog w = .ok (.tuple #[.agg #[], .bool true]) w := by kernel_rfl
theorem ta_2_3 (w : World) : (Instr.typeAssert (.iface 193 (.agg #[])) 190 194 true).run Tryz.prog w = .ok (.tuple #[.agg #[], .bool false]) w := by kernel_rfl
theorem ta_2_4 (w : World) : (Instr.typeAssert (.iface 193 (.agg #[])) 190 195 true).run Tryz.prog w = .ok (.tuple #[.agg #[], .bool false]) w := by kernel_rfl
theorem ta_3_2 (w : World) : (Instr.typeAssert (.iface 194 (.agg #[])) 190 193 true).run Tryz.prog w = .ok (.tuple #[.agg #[], .bool false]) w := by kernel_rfl
theorem ta_3_3 (w : World) : (Instr.typeAssert (.iface 194 (.agg #[])) 190 194 true).run Tryz.prog w = .ok (.tuple #[.agg #[], .bool true]) w := by kernel_rfl
theorem ta_3_4 (w : World) : (Instr.typeAssert (.iface 194 (.agg #[])) 190 195 true).run Tryz.prog w = .ok (.tuple #[.agg #[], .bool false]) w := by kernel_rfl
theorem ta_4_2 (w : World) : (Instr.typeAssert (.iface 195 (.agg #[])) 190 193 true).run Tryz.prog w = .ok (.tuple #[.agg #[], .bool false]) w := by kernel_rfl
theorem ta_4_3 (w : World) : (Instr.typeAssert (.iface 195 (.agg #[])) 190 194 true).run Tryz.prog w = .ok (.tuple #[.agg #[], .bool false]) w := by kernel_rfl
theorem ta_4_4 (w : World) : (Instr.typeAssert (.iface 195 (.agg #[])) 190 195 true).run Tryz.prog w = .ok (.tuple #[.agg #[], .bool true]) w := by kernel_rfl

theorem over_1_0 (s : ByteArray) (a : Option Addr) (cap : Nat) (e0 : Int × Int) (w : World) (h : EndsAt w a [e0]) :
    Calls Tryz.prog 89 #[.agg #[.int .i64 1, .string s, .slice a 1 cap], .int .i64 0] w fun e w' =>
    ∃ v, e = .returned v ∧ NewEnds w.heap.size w' v [] ∧ Below w.heap.size w w' := by
  obtain ⟨b, off, rfl, c00, c01⟩ := h 0 (by simp)
  simp at c00 c01
  have hblt := cell_lt c00
  clear h
  have hB : Below w.heap.size w (w.alloc (.cells #[.int .i64 1, .string s, .slice (some ⟨b, off, none⟩) 1 cap] 97)) := (Below.refl _ _).alloc (Nat.le_refl _) _
  go_enter Tryz.func89, Tryz.ntmps89
  go_wp2_with fail
  refine (kindOf_1 _).mono ?_
  rintro e w1 ⟨rfl, rfl⟩
  have ht2 := ta_1_2
  have ht3 := ta_1_3
  have ht4 := ta_1_4
  go_wp2_with fail
  go_ret
  exact ⟨_, rfl, newEnds_nil _ _, hB⟩

theorem over_2_0 (s : ByteArray) (a : Option Addr) (cap : Nat) (e0 e1 : Int × Int) (w : World) (h : EndsAt w a [e0, e1]) :
    Calls Tryz.prog 89 #[.agg #[.int .i64 2, .string s, .slice a 2 cap], .int .i64 0] w fun e w' =>
    ∃ v, e = .returned v ∧ NewEnds w.heap.size w' v [e1] ∧ Below w.heap.size w w' := by
  obtain ⟨b, off, rfl, c00, c01⟩ := h 0 (by simp)
  obtain ⟨b1, off1, hab1, c10, c11⟩ := h 1 (by simp)
  obtain ⟨rfl, rfl⟩ : b = b1 ∧ off = off1 := by simpa using hab1
  clear hab1
  simp at c00 c01 c10 c11
  have hblt := cell_lt c00
  clear h
  have hB : Below w.heap.size w (w.alloc (.cells #[.int .i64 2, .string s, .slice (some ⟨b, off, none⟩) 2 cap] 97)) := (Below.refl _ _).alloc (Nat.le_refl _) _
  go_enter Tryz.func89, Tryz.ntmps89
  go_wp2_with fail
  refine (kindOf_2 _).mono ?_
  rintro e w1 ⟨rfl, rfl⟩
  have ht2 := ta_2_2
  go_wp2_with fail
  go_ret
  have H := newEnds_one (B := w.heap.size) (w.alloc (.cells #[.int .i64 2, .string s, .slice (some ⟨b, off, none⟩) 2 cap] 97)) e1 (by simp; try omega) rfl
  simp only [World.size_alloc] at H
  exact ⟨_, rfl, H, (hB.alloc (by simp; try omega) _)⟩

theorem over_2_1 (s : ByteArray) (a : Option Addr) (cap : Nat) (e0 e1 : Int × Int) (w : World) (h : EndsAt w a [e0, e1]) :
    Calls Tryz.prog 89 #[.agg #[.int .i64 2, .string s, .slice a 2 cap], .int .i64 1] w fun e w' =>
    ∃ v, e = .returned v ∧ NewEnds w.heap.size w' v [e0] ∧ Below w.heap.size w w' := by
  obtain ⟨b, off, rfl, c00, c01⟩ := h 0 (by simp)
  obtain ⟨b1, off1, hab1, c10, c11⟩ := h 1 (by simp)
  obtain ⟨rfl, rfl⟩ : b = b1 ∧ off = off1 := by simpa using hab1
  clear hab1
  simp at c00 c01 c10 c11
  have hblt := cell_lt c00
  clear h
  have hB : Below w.heap.size w (w.alloc (.cells #[.int .i64 2, .string s, .slice (some ⟨b, off, none⟩) 2 cap] 97)) := (Below.refl _ _).alloc (Nat.le_refl _) _
  go_enter Tryz.func89, Tryz.ntmps89
  go_wp2_with fail
  refine (kindOf_2 _).mono ?_
  rintro e w1 ⟨rfl, rfl⟩
  have ht2 := ta_2_2
  go_wp2_with fail
  go_ret
  have H := newEnds_one (B := w.heap.size) (w.alloc (.cells #[.int .i64 2, .string s, .slice (some ⟨b, off, none⟩) 2 cap] 97)) e0 (by simp; try omega) rfl
  simp only [World.size_alloc] at H
  exact ⟨_, rfl, H, (hB.alloc (by simp; try omega) _)⟩

theorem over_3_0 (s : ByteArray) (a : Option Addr) (cap : Nat) (e0 e1 e2 : Int × Int) (w : World) (h : EndsAt w a [e0, e1, e2]) :
    Calls Tryz.prog 89 #[.agg #[.int .i64 3, .string s, .slice a 3 cap], .int .i64 0] w fun e w' =>
    ∃ v, e = .returned v ∧ NewEnds w.heap.size w' v [e1, e2] ∧ Below w.heap.size w w' := by
  obtain ⟨b, off, rfl, c00, c01⟩ := h 0 (by simp)
  obtain ⟨b1, off1, hab1, c10, c11⟩ := h 1 (by simp)
  obtain ⟨rfl, rfl⟩ : b = b1 ∧ off = off1 := by simpa using hab1
  clear hab1
  obtain ⟨b2, off2, hab2, c20, c21⟩ := h 2 (by simp)
  obtain ⟨rfl, rfl⟩ : b = b2 ∧ off = off2 := by simpa using hab2
  clear hab2
  simp at c00 c01 c10 c11 c20 c21
  have hblt := cell_lt c00
  clear h
  have hB : Below w.heap.size w (w.alloc (.cells #[.int .i64 3, .string s, .slice (some ⟨b, off, none⟩) 3 cap] 97)) := (Below.refl _ _).alloc (Nat.le_refl _) _
  go_enter Tryz.func89, Tryz.ntmps89
  go_wp2_with fail
  refine (kindOf_3 _).mono ?_
  rintro e w1 ⟨rfl, rfl⟩
  have ht2 := ta_3_2
  have ht3 := ta_3_3
  go_wp2_with fail
  go_region
  go_wp2_with fail
  go_ret
  have H := newEnds_two (B := w.heap.size) (w.alloc (.cells #[.int .i64 3, .string s, .slice (some ⟨b, off, none⟩) 3 cap] 97)) e1 e2 (by simp; try omega) rfl
  simp only [World.size_alloc] at H
  exact ⟨_, rfl, H.drew, (hB.alloc (by simp; try omega) _).drew⟩

theorem over_3_1 (s : ByteArray) (a : Option Addr) (cap : Nat) (e0 e1 e2 : Int × Int) (w : World) (h : EndsAt w a [e0, e1, e2]) :
    Calls Tryz.prog 89 #[.agg #[.int .i64 3, .string s, .slice a 3 cap], .int .i64 1] w fun e w' =>
    ∃ v, e = .returned v ∧ NewEnds w.heap.size w' v [e0] ∧ Below w.heap.size w w' := by
  obtain ⟨b, off, rfl, c00, c01⟩ := h 0 (by simp)
  obtain ⟨b1, off1, hab1, c10, c11⟩ := h 1 (by simp)
  obtain ⟨rfl, rfl⟩ : b = b1 ∧ off = off1 := by simpa using hab1
  clear hab1
  obtain ⟨b2, off2, hab2, c20, c21⟩ := h 2 (by simp)
  obtain ⟨rfl, rfl⟩ : b = b2 ∧ off = off2 := by simpa using hab2
  clear hab2
  simp at c00 c01 c10 c11 c20 c21
  have hblt := cell_lt c00
  clear h
  have hB : Below w.heap.size w (w.alloc (.cells #[.int .i64 3, .string s, .slice (some ⟨b, off, none⟩) 3 cap] 97)) := (Below.refl _ _).alloc (Nat.le_refl _) _
  go_enter Tryz.func89, Tryz.ntmps89
  go_wp2_with fail
  refine (kindOf_3 _).mono ?_
  rintro e w1 ⟨rfl, rfl⟩
  have ht2 := ta_3_2
  have ht3 := ta_3_3
  go_wp2_with fail
  go_ret
  have H := newEnds_one (B := w.heap.size) (w.alloc (.cells #[.int .i64 3, .string s, .slice (some ⟨b, off, none⟩) 3 cap] 97)) e0 (by simp; try omega) rfl
  simp only [World.size_alloc] at H
  exact ⟨_, rfl, H, (hB.alloc (by simp; try omega) _)⟩

theorem over_3_2 (s : ByteArray) (a : Option Addr) (cap : Nat) (e0 e1 e2 : Int × Int) (w : World) (h : EndsAt w a [e0, e1, e2]) :
    Calls Tryz.prog 89 #[.agg #[.int .i64 3, .string s, .slice a 3 cap], .int .i64 2] w fun e w' =>
    ∃ v, e = .returned v ∧ NewEnds w.heap.size w' v [e0] ∧ Below w.heap.size w w' := by
  obtain ⟨b, off, rfl, c00, c01⟩ := h 0 (by simp)
  obtain ⟨b1, off1, hab1, c10, c11⟩ := h 1 (by simp)
  obtain ⟨rfl, rfl⟩ : b = b1 ∧ off = off1 := by simpa using hab1
  clear hab1
  obtain ⟨b2, off2, hab2, c20, c21⟩ := h 2 (by simp)
  obtain ⟨rfl, rfl⟩ : b = b2 ∧ off = off2 := by simpa using hab2
  clear hab2
  simp at c00 c01 c10 c11 c20 c21
  have hblt := cell_lt c00
  clear h
  have hB : Below w.heap.size w (w.alloc (.cells #[.int .i64 3, .string s, .slice (some ⟨b, off, none⟩) 3 cap] 97)) := (Below.refl _ _).alloc (Nat.le_refl _) _
  go_enter Tryz.func89, Tryz.ntmps89
  go_wp2_with fail
  refine (kindOf_3 _).mono ?_
  rintro e w1 ⟨rfl, rfl⟩
  have ht2 := ta_3_2
  have ht3 := ta_3_3
  go_wp2_with fail
  go_ret
  have H := newEnds_one (B := w.heap.size) (w.alloc (.cells #[.int .i64 3, .string s, .slice (some ⟨b, off, none⟩) 3 cap] 97)) e0 (by simp; try omega) rfl
  simp only [World.size_alloc] at H
  exact ⟨_, rfl, H, (hB.alloc (by simp; try omega) _)⟩

theorem over_4_0 (s : ByteArray) (a : Option Addr) (cap : Nat) (e0 e1 e2 e3 : Int × Int) (w : World) (h : EndsAt w a [e0, e1, e2, e3]) :
    Calls Tryz.prog 89 #[.agg #[.int .i64 4, .string s, .slice a 4 cap], .int .i64 0] w fun e w' =>
    ∃ v, e = .returned v ∧ NewEnds w.heap.size w' v [e1] ∧ Below w.heap.size w w' := by
  obtain ⟨b, off, rfl, c00, c01⟩ := h 0 (by simp)
  obtain ⟨b1, off1, hab1, c10, c11⟩ := h 1 (by simp)
  obtain ⟨rfl, rfl⟩ : b = b1 ∧ off = off1 := by simpa using hab1
  clear hab1
  obtain ⟨b2, off2, hab2, c20, c21⟩ := h 2 (by simp)
  obtain ⟨rfl, rfl⟩ : b = b2 ∧ off = off2 := by simpa using hab2
  clear hab2
  obtain ⟨b3, off3, hab3, c30, c31⟩ := h 3 (by simp)
  obtain ⟨rfl, rfl⟩ : b = b3 ∧ off = off3 := by simpa using hab3
  clear hab3
  simp at c00 c01 c10 c11 c20 c21 c30 c31
  have hblt := cell_lt c00
  clear h
  have hB : Below w.heap.size w (w.alloc (.cells #[.int .i64 4, .string s, .slice (some ⟨b, off, none⟩) 4 cap] 97)) := (Below.refl _ _).alloc (Nat.le_refl _) _
  have hx : bits BinOp.xor IntKind.i64 0 1 = 1 := by decide
  go_enter Tryz.func89, Tryz.ntmps89
  go_wp2_with fail
  refine (kindOf_4 _).mono ?_
  rintro e w1 ⟨rfl, rfl⟩
  have ht2 := ta_4_2
  have ht3 := ta_4_3
  have ht4 := ta_4_4
  go_wp2_with fail
  go_ret
  have H := newEnds_one (B := w.heap.size) (w.alloc (.cells #[.int .i64 4, .string s, .slice (some ⟨b, off, none⟩) 4 cap] 97)) e1 (by simp; try omega) rfl
  simp only [World.size_alloc] at H
  exact ⟨_, rfl, H, (hB.alloc (by simp; try omega) _)⟩

theorem over_4_1 (s : ByteArray) (a : Option Addr) (cap : Nat) (e0 e1 e2 e3 : Int × Int) (w : World) (h : EndsAt w a [e0, e1, e2, e3]) :
    Calls Tryz.prog 89 #[.agg #[.int .i64 4, .string s, .slice a 4 cap], .int .i64 1] w fun e w' =>
    ∃ v, e = .returned v ∧ NewEnds w.heap.size w' v [e0] ∧ Below w.heap.size w w' := by
  obtain ⟨b, off, rfl, c00, c01⟩ := h 0 (by simp)
  obtain ⟨b1, off1, hab1, c10, c11⟩ := h 1 (by simp)
  obtain ⟨rfl, rfl⟩ : b = b1 ∧ off = off1 := by simpa using hab1
  clear hab1
  obtain ⟨b2, off2, hab2, c20, c21⟩ := h 2 (by simp)
  obtain ⟨rfl, rfl⟩ : b = b2 ∧ off = off2 := by simpa using hab2
  clear hab2
  obtain ⟨b3, off3, hab3, c30, c31⟩ := h 3 (by simp)
  obtain ⟨rfl, rfl⟩ : b = b3 ∧ off = off3 := by simpa using hab3
  clear hab3
  simp at c00 c01 c10 c11 c20 c21 c30 c31
  have hblt := cell_lt c00
  clear h
  have hB : Below w.heap.size w (w.alloc (.cells #[.int .i64 4, .string s, .slice (some ⟨b, off, none⟩) 4 cap] 97)) := (Below.refl _ _).alloc (Nat.le_refl _) _
  have hx : bits BinOp.xor IntKind.i64 1 1 = 0 := by decide
  go_enter Tryz.func89, Tryz.ntmps89
  go_wp2_with fail
  refine (kindOf_4 _).mono ?_
  rintro e w1 ⟨rfl, rfl⟩
  have ht2 := ta_4_2
  have ht3 := ta_4_3
  have ht4 := ta_4_4
  go_wp2_with fail
  go_ret
  have H := newEnds_one (B := w.heap.size) (w.alloc (.cells #[.int .i64 4, .string s, .slice (some ⟨b, off, none⟩) 4 cap] 97)) e0 (by simp; try omega) rfl
  simp only [World.size_alloc] at H
  exact ⟨_, rfl, H, (hB.alloc (by simp; try omega) _)⟩

theorem over_4_2 (s : ByteArray) (a : Option Addr) (cap : Nat) (e0 e1 e2 e3 : Int × Int) (w : World) (h : EndsAt w a [e0, e1, e2, e3]) :
    Calls Tryz.prog 89 #[.agg #[.int .i64 4, .string s, .slice a 4 cap], .int .i64 2] w fun e w' =>
    ∃ v, e = .returned v ∧ NewEnds w.heap.size w' v [e3] ∧ Below w.heap.size w w' := by
  obtain ⟨b, off, rfl, c00, c01⟩ := h 0 (by simp)
  obtain ⟨b1, off1, hab1, c10, c11⟩ := h 1 (by simp)
  obtain ⟨rfl, rfl⟩ : b = b1 ∧ off = off1 := by simpa using hab1
  clear hab1
  obtain ⟨b2, off2, hab2, c20, c21⟩ := h 2 (by simp)
  obtain ⟨rfl, rfl⟩ : b = b2 ∧ off = off2 := by simpa using hab2
  clear hab2
  obtain ⟨b3, off3, hab3, c30, c31⟩ := h 3 (by simp)
  obtain ⟨rfl, rfl⟩ : b = b3 ∧ off = off3 := by simpa using hab3
  clear hab3
  simp at c00 c01 c10 c11 c20 c21 c30 c31
  have hblt := cell_lt c00
  clear h
  have hB : Below w.heap.size w (w.alloc (.cells #[.int .i64 4, .string s, .slice (some ⟨b, off, none⟩) 4 cap] 97)) := (Below.refl _ _).alloc (Nat.le_refl _) _
  have hx : bits BinOp.xor IntKind.i64 2 1 = 3 := by decide
  go_enter Tryz.func89, Tryz.ntmps89
  go_wp2_with fail
  refine (kindOf_4 _).mono ?_
  rintro e w1 ⟨rfl, rfl⟩
  have ht2 := ta_4_2
  have ht3 := ta_4_3
  have ht4 := ta_4_4
  go_wp2_with fail
  go_ret
  have H := newEnds_one (B := w.heap.size) (w.alloc (.cells #[.int .i64 4, .string s, .slice (some ⟨b, off, none⟩) 4 cap] 97)) e3 (by simp; try omega) rfl
  simp only [World.size_alloc] at H
  exact ⟨_, rfl, H, (hB.alloc (by simp; try omega) _)⟩

theorem over_4_3 (s : ByteArray) (a : Option Addr) (cap : Nat) (e0 e1 e2 e3 : Int × Int) (w : World) (h : EndsAt w a [e0, e1, e2, e3]) :
    Calls Tryz.prog 89 #[.agg #[.int .i64 4, .string s, .slice a 4 cap], .int .i64 3] w fun e w' =>
    ∃ v, e = .returned v ∧ NewEnds w.heap.size w' v [e2] ∧ Below w.heap.size w w' := by
  obtain ⟨b, off, rfl, c00, c01⟩ := h 0 (by simp)
  obtain ⟨b1, off1, hab1, c10, c11⟩ := h 1 (by simp)
  obtain ⟨rfl, rfl⟩ : b = b1 ∧ off = off1 := by simpa using hab1
  clear hab1
  obtain ⟨b2, off2, hab2, c20, c21⟩ := h 2 (by simp)
  obtain ⟨rfl, rfl⟩ : b = b2 ∧ off = off2 := by simpa using hab2
  clear hab2
  obtain ⟨b3, off3, hab3, c30, c31⟩ := h 3 (by simp)
  obtain ⟨rfl, rfl⟩ : b = b3 ∧ off = off3 := by simpa using hab3
  clear hab3
  simp at c00 c01 c10 c11 c20 c21 c30 c31
  have hblt := cell_lt c00
  clear h
  have hB : Below w.heap.size w (w.alloc (.cells #[.int .i64 4, .string s, .slice (some ⟨b, off, none⟩) 4 cap] 97)) := (Below.refl _ _).alloc (Nat.le_refl _) _
  have hx : bits BinOp.xor IntKind.i64 3 1 = 2 := by decide
  go_enter Tryz.func89, Tryz.ntmps89
  go_wp2_with fail
  refine (kindOf_4 _).mono ?_
  rintro e w1 ⟨rfl, rfl⟩
  have ht2 := ta_4_2
  have ht3 := ta_4_3
  have ht4 := ta_4_4
  go_wp2_with fail
  go_ret
  have H := newEnds_one (B := w.heap.size) (w.alloc (.cells #[.int .i64 4, .string s, .slice (some ⟨b, off, none⟩) 4 cap] 97)) e2 (by simp; try omega) rfl
  simp only [World.size_alloc] at H
  exact ⟨_, rfl, H, (hB.alloc (by simp; try omega) _)⟩
end Go.Proofs.YtijdigdcmjdooaaGreat
