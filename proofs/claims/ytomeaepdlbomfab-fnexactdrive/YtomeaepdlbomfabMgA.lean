/- Plain functions: what NetOk, JointAt and Across come to. Own work; imports nothing of the dump. -/
import Derived.Test.YtomeaepdlbomfabData
namespace Go.Proofs.Ytomeaepdlbomfab

def byteOk (c : UInt8) : Bool := (decide (97 ≤ (c.toNat : Int)) && decide ((c.toNat : Int) ≤ 122)) || (decide (48 ≤ (c.toNat : Int)) && decide ((c.toNat : Int) ≤ 57)) || ((c.toNat : Int) == 95)
theorem byteOk_true {c : UInt8} (h : (97 ≤ (c.toNat : Int) ∧ (c.toNat : Int) ≤ 122) ∨ (48 ≤ (c.toNat : Int) ∧ (c.toNat : Int) ≤ 57) ∨ (c.toNat : Int) = 95) : byteOk c = true := by
  simp [byteOk]; omega
theorem byteOk_false {c : UInt8} (h : ¬ ((97 ≤ (c.toNat : Int) ∧ (c.toNat : Int) ≤ 122) ∨ (48 ≤ (c.toNat : Int) ∧ (c.toNat : Int) ≤ 57) ∨ (c.toNat : Int) = 95)) : byteOk c = false := by
  simp [byteOk]; omega
def nm (s : ByteArray) : Bool := s.data.toList.all byteOk && decide (1 ≤ s.size) && decide (s.size ≤ 20)

theorem nm_all (s : ByteArray) (h : ∀ j (hj : j < s.size), byteOk s[j] = true) : nm s = (decide (1 ≤ s.size) && decide (s.size ≤ 20)) := by
  have : s.data.toList.all byteOk = true := by
    rw [List.all_eq_true]
    intro x hx
    obtain ⟨j, hj, rfl⟩ := List.getElem_of_mem hx
    exact h j (by simpa using hj)
  simp [nm, this]

theorem nm_bad (s : ByteArray) (j : Nat) (hj : j < s.size) (h : byteOk s[j] = false) : nm s = false := by
  have : s.data.toList.all byteOk = false := by
    rw [List.all_eq_false]
    refine ⟨s[j], ?_, by simp [h]⟩
    have : s[j] = s.data.toList[j]'(by simpa using hj) := by rfl
    rw [this]; exact List.getElem_mem _
  simp [nm, this]

def inR (x a b : Int) : Bool := decide (a ≤ x) && decide (x ≤ b)

/-- The first index below n at which p holds. -/
def first (p : Nat → Bool) : Nat → Option Nat
  | 0 => none
  | n + 1 => match first p n with
    | some i => some i
    | none => if p n then some n else none

theorem first_none {p : Nat → Bool} {n : Nat} (h : ∀ j, j < n → p j = false) : first p n = none := by
  induction n with
  | zero => rfl
  | succ n ih => simp [first, ih (fun j hj => h j (by omega)), h n (by omega)]

theorem first_some {p : Nat → Bool} {n i : Nat} (hi : i < n) (h : p i = true) (hj : ∀ j, j < i → p j = false) : first p n = some i := by
  induction n with
  | zero => omega
  | succ n ih =>
    by_cases e : i = n
    · subst e; simp [first, first_none hj, h]
    · simp [first, ih (by omega)]

theorem first_cases (p : Nat → Bool) (n : Nat) : (first p n = none ∧ ∀ j, j < n → p j = false) ∨ ∃ i, i < n ∧ first p n = some i ∧ p i = true ∧ ∀ j, j < i → p j = false := by
  induction n with
  | zero => exact Or.inl ⟨rfl, by omega⟩
  | succ n ih =>
    rcases ih with ⟨h1, h2⟩ | ⟨i, h1, h2, h3, h4⟩
    · by_cases h : p n = true
      · exact Or.inr ⟨n, by omega, by simp [first, h1, h], h, h2⟩
      · refine Or.inl ⟨by simp [first, h1, h], fun j hj => ?_⟩
        by_cases e : j = n
        · subst e; simpa using h
        · exact h2 j (by omega)
    · exact Or.inr ⟨i, by omega, by simp [first, h2], h3, h4⟩

/-- As a number: -1 for none. -/
def firstI (p : Nat → Bool) (n : Nat) : Int := match first p n with | some i => i | none => -1

theorem firstI_none {p : Nat → Bool} {n : Nat} (h : ∀ j, j < n → p j = false) : firstI p n = -1 := by simp [firstI, first_none h]
theorem firstI_some {p : Nat → Bool} {n i : Nat} (hi : i < n) (h : p i = true) (hj : ∀ j, j < i → p j = false) : firstI p n = i := by simp [firstI, first_some hi h hj]

def Pc.ok (p : Pc) : Bool := nm p.name && inR p.len 1 10000000 && inR p.speed 1 10000 && inR p.brake 1 1000
/-- Piece k is not as said, or has the name of one ahead of it. -/
def pcBad (ps : List Pc) (k : Nat) : Bool := match ps[k]? with
  | some p => !p.ok || (ps.take k).any (fun q => q.name.toList == p.name.toList)
  | none => false

def endOk (n : Nat) (e : Int × Int) : Bool := inR e.1 0 ((n : Int) - 1) && inR e.2 0 1
def jtBad3 (n : Nat) (js : List Jt) (k : Nat) : Bool := match js[k]? with
  | some j => !(inR j.kind 1 4) || ((j.ends.length : Int) != j.kind) || j.ends.any (fun e => !endOk n e)
  | none => false
def jtBad4 (js : List Jt) (k : Nat) : Bool := match js[k]? with
  | some j => if j.kind < 3 then !j.name.toList.isEmpty else !nm j.name || (js.take k).any (fun q => q.name.toList == j.name.toList)
  | none => false
def allEnds (js : List Jt) : List (Int × Int) := js.flatMap (·.ends)
def uses (js : List Jt) (e : Int × Int) : Nat := (allEnds js).count e
def pcBad5 (js : List Jt) (k : Nat) : Bool := (uses js ((k : Int), 0) != 1) || (uses js ((k : Int), 1) != 1)

def sizeBad (N : Nt) : Bool := decide (N.pcs.length = 0) || decide (100 < N.pcs.length) || decide (120 < N.jts.length)

def netOk (N : Nt) : Int × Int :=
  if sizeBad N then (1, 0) else
  match first (pcBad N.pcs) N.pcs.length with
  | some i => (2, i)
  | none => match first (jtBad3 N.pcs.length N.jts) N.jts.length with
    | some i => (3, i)
    | none => match first (jtBad4 N.jts) N.jts.length with
      | some i => (4, i)
      | none => match first (pcBad5 N.jts) N.pcs.length with
        | some i => (5, i)
        | none => (0, 0)

def jcode (n : Nat) (js : List Jt) (k : Nat) : Int := if jtBad3 n js k then 3 else if jtBad4 js k then 4 else 0

theorem jtBad3_eq {n : Nat} {js : List Jt} {k : Nat} (hk : k < js.length) : jtBad3 n js k = (!(inR js[k].kind 1 4) || ((js[k].ends.length : Int) != js[k].kind) || js[k].ends.any (fun e => !endOk n e)) := by
  simp [jtBad3, hk]
theorem jtBad4_eq {js : List Jt} {k : Nat} (hk : k < js.length) : jtBad4 js k = (if js[k].kind < 3 then !js[k].name.toList.isEmpty else !nm js[k].name || (js.take k).any (fun q => q.name.toList == js[k].name.toList)) := by
  simp [jtBad4, hk]
theorem pcBad_eq {ps : List Pc} {k : Nat} (hk : k < ps.length) : pcBad ps k = (!ps[k].ok || (ps.take k).any (fun q => q.name.toList == ps[k].name.toList)) := by
  simp [pcBad, hk]
theorem any_take_true {α : Type} {l : List α} {p : α → Bool} {k u : Nat} (hu : u < k) (hl : u < l.length) (h : p l[u] = true) : (l.take k).any p = true := by
  rw [List.any_eq_true]
  refine ⟨l[u], ?_, h⟩
  rw [List.mem_take_iff_getElem]
  exact ⟨u, by omega, rfl⟩
theorem any_take_false {α : Type} {l : List α} {p : α → Bool} {k : Nat} (h : ∀ u (_ : u < k) (hl : u < l.length), p l[u] = false) : (l.take k).any p = false := by
  rw [List.any_eq_false]
  intro x hx
  rw [List.mem_take_iff_getElem] at hx
  obtain ⟨u, hu, rfl⟩ := hx
  simp [h u (by omega) (by omega)]
theorem any_false' {α : Type} {l : List α} {p : α → Bool} (h : ∀ u (hl : u < l.length), p l[u] = false) : l.any p = false := by
  have := any_take_false (l := l) (p := p) (k := l.length) (fun u _ hl => h u hl)
  rwa [List.take_length] at this
theorem any_true' {α : Type} {l : List α} {p : α → Bool} {u : Nat} (hl : u < l.length) (h : p l[u] = true) : l.any p = true := by
  rw [List.any_eq_true]; exact ⟨l[u], List.getElem_mem hl, h⟩

theorem netOk_1 {N : Nt} (h : sizeBad N = true) : netOk N = (1, 0) := by simp [netOk, h]
theorem netOk_2 {N : Nt} (h : sizeBad N = false) {i : Nat} (hi : i < N.pcs.length) (hb : pcBad N.pcs i = true) (hj : ∀ j, j < i → pcBad N.pcs j = false) : netOk N = (2, (i : Int)) := by
  simp [netOk, h, first_some hi hb hj]
theorem netOk_3 {N : Nt} (h : sizeBad N = false) (h2 : ∀ j, j < N.pcs.length → pcBad N.pcs j = false) {i : Nat} (hi : i < N.jts.length) (hb : jtBad3 N.pcs.length N.jts i = true) (hj : ∀ j, j < i → jtBad3 N.pcs.length N.jts j = false) : netOk N = (3, (i : Int)) := by
  simp [netOk, h, first_none h2, first_some hi hb hj]
theorem netOk_4 {N : Nt} (h : sizeBad N = false) (h2 : ∀ j, j < N.pcs.length → pcBad N.pcs j = false) (h3 : ∀ j, j < N.jts.length → jtBad3 N.pcs.length N.jts j = false) {i : Nat} (hi : i < N.jts.length) (hb : jtBad4 N.jts i = true) (hj : ∀ j, j < i → jtBad4 N.jts j = false) : netOk N = (4, (i : Int)) := by
  simp [netOk, h, first_none h2, first_none h3, first_some hi hb hj]
theorem netOk_5 {N : Nt} (h : sizeBad N = false) (h2 : ∀ j, j < N.pcs.length → pcBad N.pcs j = false) (h3 : ∀ j, j < N.jts.length → jtBad3 N.pcs.length N.jts j = false) (h4 : ∀ j, j < N.jts.length → jtBad4 N.jts j = false) {i : Nat} (hi : i < N.pcs.length) (hb : pcBad5 N.jts i = true) (hj : ∀ j, j < i → pcBad5 N.jts j = false) : netOk N = (5, (i : Int)) := by
  simp [netOk, h, first_none h2, first_none h3, first_none h4, first_some hi hb hj]
theorem netOk_0 {N : Nt} (h : sizeBad N = false) (h2 : ∀ j, j < N.pcs.length → pcBad N.pcs j = false) (h3 : ∀ j, j < N.jts.length → jtBad3 N.pcs.length N.jts j = false) (h4 : ∀ j, j < N.jts.length → jtBad4 N.jts j = false) (h5 : ∀ j, j < N.pcs.length → pcBad5 N.jts j = false) : netOk N = (0, 0) := by
  simp [netOk, h, first_none h2, first_none h3, first_none h4, first_none h5]

theorem jcode_3 {n js k} : (jcode n js k == 3) = jtBad3 n js k := by
  unfold jcode; cases jtBad3 n js k <;> cases jtBad4 js k <;> rfl
theorem jcode_4 {n js k} (h : jtBad3 n js k = false) : (jcode n js k == 4) = jtBad4 js k := by
  unfold jcode; rw [h]; cases jtBad4 js k <;> rfl
theorem pcBad5_false {js : List Jt} {k : Nat} (h0 : uses js ((k : Int), 0) = 1) (h1 : uses js ((k : Int), 1) = 1) : pcBad5 js k = false := by simp [pcBad5, h0, h1]
theorem pcBad5_true0 {js : List Jt} {k : Nat} (h0 : uses js ((k : Int), 0) ≠ 1) : pcBad5 js k = true := by simp [pcBad5, h0]
theorem pcBad5_true1 {js : List Jt} {k : Nat} (h0 : uses js ((k : Int), 1) ≠ 1) : pcBad5 js k = true := by simp [pcBad5, h0]
end Go.Proofs.Ytomeaepdlbomfab

/- Where an end stands in a right net. Own work. -/
namespace Go.Proofs.Ytomeaepdlbomfab

theorem right_facts {N : Nt} (h : netOk N = (0, 0)) : sizeBad N = false ∧ (∀ j, j < N.pcs.length → pcBad N.pcs j = false) ∧ (∀ j, j < N.jts.length → jtBad3 N.pcs.length N.jts j = false) ∧ (∀ j, j < N.jts.length → jtBad4 N.jts j = false) ∧ (∀ j, j < N.pcs.length → pcBad5 N.jts j = false) := by
  cases hs : sizeBad N
  case true => rw [netOk_1 hs] at h; simp at h
  rcases first_cases (pcBad N.pcs) N.pcs.length with ⟨_, h2⟩ | ⟨i, hi, _, hb, hlt⟩
  case inr => rw [netOk_2 hs hi hb hlt] at h; simp at h
  rcases first_cases (jtBad3 N.pcs.length N.jts) N.jts.length with ⟨_, h3⟩ | ⟨i, hi, _, hb, hlt⟩
  case inr => rw [netOk_3 hs h2 hi hb hlt] at h; simp at h
  rcases first_cases (jtBad4 N.jts) N.jts.length with ⟨_, h4⟩ | ⟨i, hi, _, hb, hlt⟩
  case inr => rw [netOk_4 hs h2 h3 hi hb hlt] at h; simp at h
  rcases first_cases (pcBad5 N.jts) N.pcs.length with ⟨_, h5⟩ | ⟨i, hi, _, hb, hlt⟩
  case inr => rw [netOk_5 hs h2 h3 h4 hi hb hlt] at h; simp at h
  exact ⟨rfl, h2, h3, h4, h5⟩

/-- A net's code is 0 just where it is right. -/
theorem netOk_code {N : Nt} : ((netOk N).1 == 0) = decide (netOk N = (0, 0)) := by
  cases hs : sizeBad N
  case true => rw [netOk_1 hs]; rfl
  rcases first_cases (pcBad N.pcs) N.pcs.length with ⟨_, h2⟩ | ⟨i, hi, _, hb, hlt⟩
  case inr => rw [netOk_2 hs hi hb hlt]; simp
  rcases first_cases (jtBad3 N.pcs.length N.jts) N.jts.length with ⟨_, h3⟩ | ⟨i, hi, _, hb, hlt⟩
  case inr => rw [netOk_3 hs h2 hi hb hlt]; simp
  rcases first_cases (jtBad4 N.jts) N.jts.length with ⟨_, h4⟩ | ⟨i, hi, _, hb, hlt⟩
  case inr => rw [netOk_4 hs h2 h3 hi hb hlt]; simp
  rcases first_cases (pcBad5 N.jts) N.pcs.length with ⟨_, h5⟩ | ⟨i, hi, _, hb, hlt⟩
  case inr => rw [netOk_5 hs h2 h3 h4 hi hb hlt]; simp
  rw [netOk_0 hs h2 h3 h4 h5]; rfl

/-- The end e stands in joint j at place i. -/
def At (js : List Jt) (e : Int × Int) (j i : Nat) : Prop := ∃ (hj : j < js.length) (hi : i < js[j].ends.length), js[j].ends[i] = e

theorem count_pos_of {es : List (Int × Int)} {e : Int × Int} {i k : Nat} (hi : i < es.length) (hk : i < k) (h : es[i] = e) : 1 ≤ (es.take k).count e := by
  have : e ∈ es.take k := by
    rw [List.mem_take_iff_getElem]; exact ⟨i, by omega, h⟩
  exact List.count_pos_iff.2 this

theorem count_take_le {es : List (Int × Int)} {e : Int × Int} {k m : Nat} (h : k ≤ m) : (es.take k).count e ≤ (es.take m).count e := by
  have : (es.take k).Sublist (es.take m) := by
    rw [show es.take k = (es.take m).take k by rw [List.take_take, Nat.min_eq_left h]]
    exact List.take_sublist _ _
  exact this.count_le _

theorem count_two {es : List (Int × Int)} {e : Int × Int} {i k : Nat} (hi : i < k) (hk : k < es.length) (h1 : es[i] = e) (h2 : es[k] = e) : 2 ≤ es.count e := by
  have a1 := count_pos_of (es := es) (e := e) (i := i) (k := k) (by omega) hi h1
  have a2 : (es.take (k + 1)).count e = (es.take k).count e + 1 := by
    rw [List.take_succ_eq_append_getElem hk, List.count_append, h2]; simp
  have a3 := count_take_le (es := es) (e := e) (k := k + 1) (m := es.length) (by omega)
  rw [List.take_length] at a3
  omega

theorem uses_take_le {js : List Jt} {e : Int × Int} {k m : Nat} (h : k ≤ m) : uses (js.take k) e ≤ uses (js.take m) e := by
  unfold uses allEnds
  rw [show js.take k = (js.take m).take k by rw [List.take_take, Nat.min_eq_left h]]
  have : (((js.take m).take k).flatMap (·.ends)).Sublist ((js.take m).flatMap (·.ends)) := by
    conv => rhs; rw [← List.take_append_drop k (js.take m)]
    rw [List.flatMap_append]
    exact List.sublist_append_left _ _
  exact this.count_le _

theorem uses_succ' (js : List Jt) (k : Nat) (hk : k < js.length) (e : Int × Int) : uses (js.take (k + 1)) e = uses (js.take k) e + js[k].ends.count e := by
  unfold uses allEnds
  rw [List.take_succ_eq_append_getElem hk, List.flatMap_append, List.count_append, List.flatMap_singleton]

theorem At.uses_pos {js : List Jt} {e : Int × Int} {j i : Nat} (h : At js e j i) : 1 ≤ uses (js.take (j + 1)) e := by
  obtain ⟨hj, hi, he⟩ := h
  rw [uses_succ' js j hj]
  have := count_pos_of (es := js[j].ends) (e := e) (k := js[j].ends.length) hi hi he
  rw [List.take_length] at this
  omega

theorem At.unique {js : List Jt} {e : Int × Int} {j i j' i' : Nat} (h : At js e j i) (h' : At js e j' i') (hu : uses js e = 1) : j = j' ∧ i = i' := by
  have key : ∀ {j i j' i' : Nat}, At js e j i → At js e j' i' → ¬ j < j' := by
    intro j i j' i' h h' hlt
    have a1 := h.uses_pos
    have a2 := uses_take_le (js := js) (e := e) (k := j + 1) (m := j') (by omega)
    obtain ⟨hj, hi, he⟩ := h'
    have a3 := uses_succ' js j' hj e
    have a4 := count_pos_of (es := js[j'].ends) (e := e) (k := js[j'].ends.length) hi hi he
    rw [List.take_length] at a4
    have a5 := uses_take_le (js := js) (e := e) (k := j' + 1) (m := js.length) (by omega)
    rw [List.take_length] at a5
    omega
  have hjj : j = j' := by
    have := key h h'
    have := key h' h
    omega
  subst hjj
  refine ⟨rfl, ?_⟩
  obtain ⟨hj, hi, he⟩ := h
  obtain ⟨_, hi', he'⟩ := h'
  have b1 := uses_succ' js j hj e
  have b2 := uses_take_le (js := js) (e := e) (k := j + 1) (m := js.length) (by omega)
  rw [List.take_length] at b2
  rcases Nat.lt_trichotomy i i' with hl | hl | hl
  · have := count_two hl hi' he he'; omega
  · exact hl
  · have := count_two hl hi he' he; omega

theorem at_of_uses {js : List Jt} {e : Int × Int} (h : 1 ≤ uses js e) : ∃ j i, At js e j i := by
  have hm : e ∈ allEnds js := List.count_pos_iff.1 h
  unfold allEnds at hm
  rw [List.mem_flatMap] at hm
  obtain ⟨x, hx, he⟩ := hm
  obtain ⟨j, hj, rfl⟩ := List.getElem_of_mem hx
  obtain ⟨i, hi, hei⟩ := List.getElem_of_mem he
  exact ⟨j, i, hj, hi, hei⟩

theorem endOk_of_at {n : Nat} {js : List Jt} (h3 : ∀ k, k < js.length → jtBad3 n js k = false) {e : Int × Int} {j i : Nat} (h : At js e j i) : endOk n e = true := by
  obtain ⟨hj, hi, rfl⟩ := h
  have h := h3 j hj
  rw [jtBad3_eq hj] at h
  simp only [Bool.or_eq_false_iff] at h
  have h2 := List.any_eq_false.1 h.2 js[j].ends[i] (List.getElem_mem hi)
  simpa using h2

theorem uses_right {N : Nt} (h : netOk N = (0, 0)) {e : Int × Int} (he : endOk N.pcs.length e = true) : uses N.jts e = 1 := by
  obtain ⟨_, _, _, _, h5⟩ := right_facts h
  simp [endOk, inR] at he
  obtain ⟨x, y⟩ := e
  obtain ⟨⟨hx0, hx1⟩, hy0, hy1⟩ := he
  simp only at hx0 hx1 hy0 hy1
  obtain ⟨k, rfl⟩ := Int.eq_ofNat_of_zero_le hx0
  have h := h5 k (by omega)
  simp [pcBad5] at h
  have hy : y = 0 ∨ y = 1 := by omega
  rcases hy with rfl | rfl
  · exact h.1
  · exact h.2
end Go.Proofs.Ytomeaepdlbomfab

/- More plain lemmas. Own work. -/
namespace Go.Proofs.Ytomeaepdlbomfab

def jb3 (n : Nat) (j : Jt) : Bool := !(inR j.kind 1 4) || ((j.ends.length : Int) != j.kind) || j.ends.any (fun e => !endOk n e)
def jnOk (j : Jt) : Bool := if j.kind < 3 then j.name.toList.isEmpty else nm j.name
theorem jtBad3_jb3 {n : Nat} {js : List Jt} {k : Nat} (hk : k < js.length) : jtBad3 n js k = jb3 n js[k] := by rw [jtBad3_eq hk]; rfl
theorem jb3_none {n : Nat} {j : Jt} (h : j.kind < 1 ∨ 4 < j.kind) : jb3 n j = true := by
  have : inR j.kind 1 4 = false := by rw [Bool.eq_false_iff]; simp [inR]; omega
  simp [jb3, this]
theorem jb3_some {n : Nat} {j : Jt} {c : Int} (h : j.kind = c) (h1 : 1 ≤ c) (h4 : c ≤ 4) : jb3 n j = (((j.ends.length : Int) != c) || j.ends.any (fun e => !endOk n e)) := by
  have : inR j.kind 1 4 = true := by simp [inR]; omega
  rw [jb3, this, h]; rfl
theorem jb3_kind {n : Nat} {j : Jt} (h : jb3 n j = false) : 1 ≤ j.kind ∧ j.kind ≤ 4 := by
  simp [jb3, inR] at h; omega
end Go.Proofs.Ytomeaepdlbomfab
