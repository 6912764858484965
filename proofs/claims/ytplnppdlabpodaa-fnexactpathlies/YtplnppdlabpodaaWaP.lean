/- How switches have to lie for steps: plain. Own work. -/
import Derived.Test.YtplnppdlabpodaaMxAL
import Derived.Test.YtplnppdlabpodaaDrP
import Derived.Test.YtplnppdlabpodaaAcS
namespace Go.Proofs.Ytplnppdlabpodaa

def seatJ (N : Nt) (e : Int × Int) : Nat := ((seatTo N.jts N.jts.length e).getD (0, 0, 0)).1.toNat
def seatI (N : Nt) (e : Int × Int) : Nat := ((seatTo N.jts N.jts.length e).getD (0, 0, 0)).2.1.toNat

theorem seat_look {N : Nt} (hr : netOk N = (0, 0)) {e : Int × Int} (he : endOk N.pcs.length e = true) : ∃ t, (seatTo N.jts N.jts.length e).getD (0, 0, 0) = ((seatJ N e : Int), (seatI N e : Int), t) ∧ At N.jts e (seatJ N e) (seatI N e) := by
  have hsi := seatIs_right hr e
  have hsome : (seatTo N.jts N.jts.length e).isSome = true := by
    cases hs : (seatTo N.jts N.jts.length e).isSome
    · rw [hs] at hsi
      exact absurd ⟨hr, he⟩ (hsi.2 rfl)
    · rfl
  obtain ⟨_, j, i, hj1, hi1, hat⟩ := hsi.1 hsome
  have ej : seatJ N e = j := by unfold seatJ; rw [hj1]; simp
  have ei : seatI N e = i := by unfold seatI; rw [hi1]; simp
  rw [ej, ei]
  refine ⟨((seatTo N.jts N.jts.length e).getD (0, 0, 0)).2.2, ?_, hat⟩
  rw [← hj1, ← hi1]

theorem seat_of_at {N : Nt} (hr : netOk N = (0, 0)) {e : Int × Int} {j i : Nat} (h : At N.jts e j i) : seatJ N e = j ∧ seatI N e = i := by
  obtain ⟨_, _, h2⟩ := seat_look hr (endOk_of_at (right_facts hr).2.2.1 h)
  exact at_one hr h2 h

/-- Over which joint one comes from a step to the next, and how it has to lie: 0 where it is no switch. -/
def wantP (N : Nt) (a b : Int × Int) : Option (Nat × Int) :=
  match N.jts[seatJ N (headP a.1 a.2)]? with
  | none => none
  | some J => if headP b.1 (-b.2) ∈ acr J (seatI N (headP a.1 a.2)) then some (seatJ N (headP a.1 a.2), if J.kind = 3 then (seatI N (headP a.1 a.2) : Int) + (seatI N (headP b.1 (-b.2)) : Int) else 0) else none

theorem want_no {N : Nt} (hr : netOk N = (0, 0)) {a b : Int × Int} {j k : Nat} (h : At N.jts (headP a.1 a.2) j k) (hj : j < N.jts.length) (hn : ¬ headP b.1 (-b.2) ∈ acr N.jts[j] k) : wantP N a b = none := by
  obtain ⟨h1, h2⟩ := seat_of_at hr h
  unfold wantP
  rw [h1, h2, List.getElem?_eq_getElem hj]
  simp [hn]
theorem want_0 {N : Nt} (hr : netOk N = (0, 0)) {a b : Int × Int} {j k : Nat} (h : At N.jts (headP a.1 a.2) j k) (hj : j < N.jts.length) (hn : headP b.1 (-b.2) ∈ acr N.jts[j] k) (hk : ¬ N.jts[j].kind = 3) : wantP N a b = some (j, 0) := by
  obtain ⟨h1, h2⟩ := seat_of_at hr h
  unfold wantP
  rw [h1, h2, List.getElem?_eq_getElem hj]
  simp [hn, hk]
theorem want_3 {N : Nt} (hr : netOk N = (0, 0)) {a b : Int × Int} {j k j' m : Nat} (h : At N.jts (headP a.1 a.2) j k) (h' : At N.jts (headP b.1 (-b.2)) j' m) (hj : j < N.jts.length) (hn : headP b.1 (-b.2) ∈ acr N.jts[j] k) (hk : N.jts[j].kind = 3) : wantP N a b = some (j, (k : Int) + m) := by
  obtain ⟨h1, h2⟩ := seat_of_at hr h
  unfold wantP
  rw [h1, h2, List.getElem?_eq_getElem hj]
  simp [hn, hk, (seat_of_at hr h').2]

theorem tip_of {J : Jt} {k : Nat} {f : Int × Int} (hk : J.kind = 3) (h : f ∈ acr J k) : ∃ (m : Nat) (hm : m < J.ends.length), J.ends[m] = f ∧ ((k = 0 ∧ (m = 1 ∨ m = 2)) ∨ (¬ k = 0 ∧ m = 0)) := by
  have e2 : ¬ J.kind = 2 := by omega
  unfold acr at h
  rw [if_neg e2, if_pos hk] at h
  by_cases h0 : k = 0
  · rw [if_pos h0] at h
    simp only [List.mem_append, Option.mem_toList, List.getElem?_eq_some_iff] at h
    rcases h with ⟨hm, h⟩ | ⟨hm, h⟩
    · exact ⟨1, hm, h, .inl ⟨h0, .inl rfl⟩⟩
    · exact ⟨2, hm, h, .inl ⟨h0, .inr rfl⟩⟩
  · rw [if_neg h0] at h
    simp only [Option.mem_toList, List.getElem?_eq_some_iff] at h
    obtain ⟨hm, h⟩ := h
    exact ⟨0, hm, h, .inr ⟨h0, rfl⟩⟩

/-- At a switch one of the two ends is the tip. -/
theorem want_tip {N : Nt} (hr : netOk N = (0, 0)) {e f : Int × Int} {j k j' m : Nat} (h : At N.jts e j k) (h' : At N.jts f j' m) (hj : j < N.jts.length) (hn : f ∈ acr N.jts[j] k) (hk : N.jts[j].kind = 3) : (k = 0 ∧ (m = 1 ∨ m = 2)) ∨ (m = 0 ∧ (k = 1 ∨ k = 2)) := by
  obtain ⟨m', hm', he, hc⟩ := tip_of hk hn
  obtain ⟨_, rfl⟩ := at_one hr (show At N.jts f j m' from ⟨hj, hm', he⟩) h'
  obtain ⟨_, hkl, _⟩ := h
  have hl := (jb3_len (n := N.pcs.length) (j := N.jts[j]) (by rw [← jtBad3_jb3 hj]; exact (right_facts hr).2.2.1 j hj)).2
  omega

/-- How the switches have to lie that were met, and one more. -/
def lieAdd (out : List (Int × Int)) (j : Nat) (l : Int) : Option (List (Int × Int)) :=
  if l = 0 then some out else if out.any (fun y => y.1 == (j : Int) && y.2 != l) then none else if out.any (fun y => y.1 == (j : Int)) then some out else some (out ++ [((j : Int), l)])

def liesTo (N : Nt) (ss : List (Int × Int)) : Nat → Option (List (Int × Int))
  | 0 => some []
  | i + 1 => match liesTo N ss i with
    | none => none
    | some out => match wantP N ss[i]! ss[i + 1]! with
      | none => none
      | some (j, l) => lieAdd out j l

theorem liesTo_none {N : Nt} {ss : List (Int × Int)} {i : Nat} (h : liesTo N ss i = none) : ∀ k, liesTo N ss (i + k) = none := by
  intro k
  induction k with
  | zero => exact h
  | succ k ih =>
    show liesTo N ss (i + k + 1) = none
    unfold liesTo
    rw [ih]

theorem liesTo_succ {N : Nt} {ss : List (Int × Int)} {i : Nat} {out : List (Int × Int)} {j : Nat} {l : Int} (h : liesTo N ss i = some out) (hw : wantP N ss[i]! ss[i + 1]! = some (j, l)) : liesTo N ss (i + 1) = lieAdd out j l := by
  rw [liesTo, h]; simp only [hw]
theorem liesTo_no {N : Nt} {ss : List (Int × Int)} {i : Nat} {out : List (Int × Int)} (h : liesTo N ss i = some out) (hw : wantP N ss[i]! ss[i + 1]! = none) : liesTo N ss (i + 1) = none := by
  rw [liesTo, h]; simp only [hw]

theorem lieAdd_len {out out' : List (Int × Int)} {j : Nat} {l : Int} (h : lieAdd out j l = some out') : out'.length ≤ out.length + 1 := by
  unfold lieAdd at h
  split at h
  · cases h; omega
  · split at h
    · cases h
    · split at h <;> (cases h; simp)

/-- What is known of the joints, against the list of those that were met. -/
def KnownIs (N : Nt) (out : List (Int × Int)) (kn : Nat → Int) : Prop :=
  ∀ j (hj : j < N.jts.length), (kn j = 0 ∧ ∀ y ∈ out, ¬ y.1 = (j : Int)) ∨ (¬ kn j = 0 ∧ N.jts[j].kind = 3 ∧ ((j : Int), kn j) ∈ out ∧ ∀ y ∈ out, y.1 = (j : Int) → y.2 = kn j)

theorem known_nil (N : Nt) : KnownIs N [] (fun _ => 0) := fun _ _ => .inl ⟨rfl, fun y hy => by simp at hy⟩
theorem known_same {N : Nt} {out : List (Int × Int)} {kn : Nat → Int} (h : KnownIs N out kn) {j : Nat} (hj : j < N.jts.length) : lieAdd out j (kn j) = some out := by
  unfold lieAdd
  by_cases h0 : kn j = 0
  · rw [if_pos h0]
  · rw [if_neg h0]
    rcases h j hj with h | ⟨_, _, hm, hall⟩
    · exact absurd h.1 h0
    · have h1 : (out.any fun y => y.1 == (j : Int) && y.2 != kn j) = false := by
        rw [List.any_eq_false]
        intro y hy
        simp only [Bool.and_eq_true, beq_iff_eq, bne_iff_ne, ne_eq, not_and, Classical.not_not]
        exact hall y hy
      have h2 : (out.any fun y => y.1 == (j : Int)) = true := by
        rw [List.any_eq_true]
        exact ⟨_, hm, by simp⟩
      rw [h1, h2]; simp
theorem known_new {N : Nt} {out : List (Int × Int)} {kn : Nat → Int} (h : KnownIs N out kn) {j : Nat} (hj : j < N.jts.length) (h0 : kn j = 0) {l : Int} (hl : ¬ l = 0) (h3 : N.jts[j].kind = 3) :
    lieAdd out j l = some (out ++ [((j : Int), l)]) ∧ KnownIs N (out ++ [((j : Int), l)]) (fun i => if i = j then l else kn i) := by
  have hno : ∀ y ∈ out, ¬ y.1 = (j : Int) := by
    rcases h j hj with h | h
    · exact h.2
    · exact absurd h0 h.1
  constructor
  · unfold lieAdd
    rw [if_neg hl]
    have h1 : (out.any fun y => y.1 == (j : Int) && y.2 != l) = false := by
      rw [List.any_eq_false]
      intro y hy
      simp only [Bool.and_eq_true, beq_iff_eq, not_and]
      intro he
      exact absurd he (hno y hy)
    have h2 : (out.any fun y => y.1 == (j : Int)) = false := by
      rw [List.any_eq_false]
      intro y hy
      simp only [beq_iff_eq]
      exact hno y hy
    rw [h1, h2]; simp
  · intro i hi
    by_cases e : i = j
    · subst e
      refine .inr ⟨by simpa using hl, h3, by simp, ?_⟩
      intro y hy hy1
      rcases List.mem_append.1 hy with hy | hy
      · exact absurd hy1 (hno y hy)
      · have : y = ((i : Int), l) := by simpa using hy
        rw [this]; simp
    · have hne : ¬ ((j : Int) = (i : Int)) := by omega
      rcases h i hi with ⟨h1, h2⟩ | ⟨h1, h2, h4, h5⟩
      · refine .inl ⟨by simp only [if_neg e]; exact h1, ?_⟩
        intro y hy
        rcases List.mem_append.1 hy with hy | hy
        · exact h2 y hy
        · have : y = ((j : Int), l) := by simpa using hy
          rw [this]; exact hne
      · refine .inr ⟨by simp only [if_neg e]; exact h1, h2, ?_, ?_⟩
        · simp only [if_neg e]; exact List.mem_append_left _ h4
        · intro y hy hy1
          simp only [if_neg e]
          rcases List.mem_append.1 hy with hy | hy
          · exact h5 y hy hy1
          · have : y = ((j : Int), l) := by simpa using hy
            rw [this] at hy1; exact absurd hy1 hne
theorem known_not {N : Nt} {out : List (Int × Int)} {kn : Nat → Int} (h : KnownIs N out kn) {j : Nat} (hj : j < N.jts.length) (h0 : ¬ kn j = 0) {l : Int} (hl : ¬ kn j = l) (h3 : N.jts[j].kind = 3 → ¬ l = 0) : lieAdd out j l = none := by
  rcases h j hj with h | ⟨_, hk, hm, _⟩
  · exact absurd h.1 h0
  · unfold lieAdd
    rw [if_neg (h3 hk), if_pos]
    rw [List.any_eq_true]
    exact ⟨_, hm, by simpa using hl⟩

/-- A step of a net. -/
def stepOk (n : Nat) (s : Int × Int) : Bool := inR s.1 0 ((n : Int) - 1) && (s.2 == 1 || s.2 == -1)
theorem stepOk_ends {n : Nat} {s : Int × Int} (h : stepOk n s = true) : endOk n (headP s.1 s.2) = true ∧ endOk n (headP s.1 (-s.2)) = true := by
  simp only [stepOk, Bool.and_eq_true, inR, decide_eq_true_eq] at h
  constructor <;> (unfold headP endOk inR; split <;> (simp only [Bool.and_eq_true, decide_eq_true_eq]; omega))
def stepsP (N : Nt) (ss : List (Int × Int)) : Bool := decide (ss.length ≤ 400) && ss.all (stepOk N.pcs.length)
/-- PathLies, and whether the steps are such that switches can lie for them. -/
def liesQ (N : Nt) (ss : List (Int × Int)) : Option (List (Int × Int)) := if netOk N = (0, 0) ∧ stepsP N ss = true then liesTo N ss (ss.length - 1) else none
end Go.Proofs.Ytplnppdlabpodaa
