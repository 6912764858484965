/- Where an end stands in a right net. Own work. -/
import Derived.Test.YtokhbnlpifmjkaaDoorPl
namespace Go.Proofs.YtokhbnlpifmjkaaDoor

theorem right_facts {N : Nt} (h : netOk N = (0, 0)) : sizeBad N = false ∧ (∀ j, j < N.pcs.length → pcBad N.pcs j = false) ∧ (∀ j, j < N.jts.length → jtBad3 N.pcs.length N.jts j = false) ∧ (∀ j, j < N.jts.length → jtBad4 N.jts j = false) ∧ (∀ j, j < N.pcs.length → pcBad5 N.jts j = false) := by
  cases hs : sizeBad N
  case true => rw [netOk_1 hs] at h; simp at h
  rcases first_cases (pcBad N.pcs) N.pcs.length with ⟨_, h2⟩ | ⟨i, hi, _, hb, hlt⟩
  case inr => rw [netOk_2 hs hi hb hlt] at h; simp at h
  rcases first_cases (jtBad3 N.pcs.length N.jts) N.jts.length with ⟨_, h3⟩ | ⟨i, hi, _, hb, hlt⟩
  case inr => rw [netOk_3 hs h2 hi hb hlt] at h; simp at h
  rcases first_cases (jtBad4 N.jts) N.jts.length with ⟨_, h4⟩ | ⟨i, hi, _, hb, hlt⟩
  case inr => rw [netOk_4 hs h2 h3 hi hb hlt] at h; simp at h
  rcases first_cases (pcBad5 N.jts) N.pcs.length with ⟨_, h5⟩ | ⟨i, hi, _, hb, hlt⟩
  case inr => rw [netOk_5 hs h2 h3 h4 hi hb hlt] at h; simp at h
  exact ⟨rfl, h2, h3, h4, h5⟩

/-- A net's code is 0 just where it is right. -/
theorem netOk_code {N : Nt} : ((netOk N).1 == 0) = decide (netOk N = (0, 0)) := by
  cases hs : sizeBad N
  case true => rw [netOk_1 hs]; rfl
  rcases first_cases (pcBad N.pcs) N.pcs.length with ⟨_, h2⟩ | ⟨i, hi, _, hb, hlt⟩
  case inr => rw [netOk_2 hs hi hb hlt]; simp
  rcases first_cases (jtBad3 N.pcs.length N.jts) N.jts.length with ⟨_, h3⟩ | ⟨i, hi, _, hb, hlt⟩
  case inr => rw [netOk_3 hs h2 hi hb hlt]; simp
  rcases first_cases (jtBad4 N.jts) N.jts.length with ⟨_, h4⟩ | ⟨i, hi, _, hb, hlt⟩
  case inr => rw [netOk_4 hs h2 h3 hi hb hlt]; simp
  rcases first_cases (pcBad5 N.jts) N.pcs.length with ⟨_, h5⟩ | ⟨i, hi, _, hb, hlt⟩
  case inr => rw [netOk_5 hs h2 h3 h4 hi hb hlt]; simp
  rw [netOk_0 hs h2 h3 h4 h5]; rfl

/-- The end e stands in joint j at place i. -/
def At (js : List Jt) (e : Int × Int) (j i : Nat) : Prop := ∃ (hj : j < js.length) (hi : i < js[j].ends.length), js[j].ends[i] = e

theorem count_pos_of {es : List (Int × Int)} {e : Int × Int} {i k : Nat} (hi : i < es.length) (hk : i < k) (h : es[i] = e) : 1 ≤ (es.take k).count e := by
  have : e ∈ es.take k := by
    rw [List.mem_take_iff_getElem]; exact ⟨i, by omega, h⟩
  exact List.count_pos_iff.2 this

theorem count_take_le {es : List (Int × Int)} {e : Int × Int} {k m : Nat} (h : k ≤ m) : (es.take k).count e ≤ (es.take m).count e := by
  have : (es.take k).Sublist (es.take m) := by
    rw [show es.take k = (es.take m).take k by rw [List.take_take, Nat.min_eq_left h]]
    exact List.take_sublist _ _
  exact this.count_le _

theorem count_two {es : List (Int × Int)} {e : Int × Int} {i k : Nat} (hi : i < k) (hk : k < es.length) (h1 : es[i] = e) (h2 : es[k] = e) : 2 ≤ es.count e := by
  have a1 := count_pos_of (es := es) (e := e) (i := i) (k := k) (by omega) hi h1
  have a2 : (es.take (k + 1)).count e = (es.take k).count e + 1 := by
    rw [List.take_succ_eq_append_getElem hk, List.count_append, h2]; simp
  have a3 := count_take_le (es := es) (e := e) (k := k + 1) (m := es.length) (by omega)
  rw [List.take_length] at a3
  omega

theorem uses_take_le {js : List Jt} {e : Int × Int} {k m : Nat} (h : k ≤ m) : uses (js.take k) e ≤ uses (js.take m) e := by
  unfold uses allEnds
  rw [show js.take k = (js.take m).take k by rw [List.take_take, Nat.min_eq_left h]]
  have : (((js.take m).take k).flatMap (·.ends)).Sublist ((js.take m).flatMap (·.ends)) := by
    conv => rhs; rw [← List.take_append_drop k (js.take m)]
    rw [List.flatMap_append]
    exact List.sublist_append_left _ _
  exact this.count_le _

theorem uses_succ' (js : List Jt) (k : Nat) (hk : k < js.length) (e : Int × Int) : uses (js.take (k + 1)) e = uses (js.take k) e + js[k].ends.count e := by
  unfold uses allEnds
  rw [List.take_succ_eq_append_getElem hk, List.flatMap_append, List.count_append, List.flatMap_singleton]

theorem At.uses_pos {js : List Jt} {e : Int × Int} {j i : Nat} (h : At js e j i) : 1 ≤ uses (js.take (j + 1)) e := by
  obtain ⟨hj, hi, he⟩ := h
  rw [uses_succ' js j hj]
  have := count_pos_of (es := js[j].ends) (e := e) (k := js[j].ends.length) hi hi he
  rw [List.take_length] at this
  omega

theorem At.unique {js : List Jt} {e : Int × Int} {j i j' i' : Nat} (h : At js e j i) (h' : At js e j' i') (hu : uses js e = 1) : j = j' ∧ i = i' := by
  have key : ∀ {j i j' i' : Nat}, At js e j i → At js e j' i' → ¬ j < j' := by
    intro j i j' i' h h' hlt
    have a1 := h.uses_pos
    have a2 := uses_take_le (js := js) (e := e) (k := j + 1) (m := j') (by omega)
    obtain ⟨hj, hi, he⟩ := h'
    have a3 := uses_succ' js j' hj e
    have a4 := count_pos_of (es := js[j'].ends) (e := e) (k := js[j'].ends.length) hi hi he
    rw [List.take_length] at a4
    have a5 := uses_take_le (js := js) (e := e) (k := j' + 1) (m := js.length) (by omega)
    rw [List.take_length] at a5
    omega
  have hjj : j = j' := by
    have := key h h'
    have := key h' h
    omega
  subst hjj
  refine ⟨rfl, ?_⟩
  obtain ⟨hj, hi, he⟩ := h
  obtain ⟨_, hi', he'⟩ := h'
  have b1 := uses_succ' js j hj e
  have b2 := uses_take_le (js := js) (e := e) (k := j + 1) (m := js.length) (by omega)
  rw [List.take_length] at b2
  rcases Nat.lt_trichotomy i i' with hl | hl | hl
  · have := count_two hl hi' he he'; omega
  · exact hl
  · have := count_two hl hi he' he; omega

theorem at_of_uses {js : List Jt} {e : Int × Int} (h : 1 ≤ uses js e) : ∃ j i, At js e j i := by
  have hm : e ∈ allEnds js := List.count_pos_iff.1 h
  unfold allEnds at hm
  rw [List.mem_flatMap] at hm
  obtain ⟨x, hx, he⟩ := hm
  obtain ⟨j, hj, rfl⟩ := List.getElem_of_mem hx
  obtain ⟨i, hi, hei⟩ := List.getElem_of_mem he
  exact ⟨j, i, hj, hi, hei⟩

theorem endOk_of_at {n : Nat} {js : List Jt} (h3 : ∀ k, k < js.length → jtBad3 n js k = false) {e : Int × Int} {j i : Nat} (h : At js e j i) : endOk n e = true := by
  obtain ⟨hj, hi, rfl⟩ := h
  have h := h3 j hj
  rw [jtBad3_eq hj] at h
  simp only [Bool.or_eq_false_iff] at h
  have h2 := List.any_eq_false.1 h.2 js[j].ends[i] (List.getElem_mem hi)
  simpa using h2

theorem uses_right {N : Nt} (h : netOk N = (0, 0)) {e : Int × Int} (he : endOk N.pcs.length e = true) : uses N.jts e = 1 := by
  obtain ⟨_, _, _, _, h5⟩ := right_facts h
  simp [endOk, inR] at he
  obtain ⟨x, y⟩ := e
  obtain ⟨⟨hx0, hx1⟩, hy0, hy1⟩ := he
  simp only at hx0 hx1 hy0 hy1
  obtain ⟨k, rfl⟩ := Int.eq_ofNat_of_zero_le hx0
  have h := h5 k (by omega)
  simp [pcBad5] at h
  have hy : y = 0 ∨ y = 1 := by omega
  rcases hy with rfl | rfl
  · exact h.1
  · exact h.2
end Go.Proofs.YtokhbnlpifmjkaaDoor
