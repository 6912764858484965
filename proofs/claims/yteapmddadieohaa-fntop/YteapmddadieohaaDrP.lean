/- Drives, as a relation; it gives one answer at most. Own work. -/
import Derived.Test.YteapmddadieohaaMxAG
namespace Go.Proofs.Yteapmddadieohaa

structure DRes where
  code : Int
  far : Int
  joint : Int
  q : Int
  at' : Int
  way : Int
  ps : List (Int × Int × Int)

def stepP (N : Nt) (far f q a wy : Int) : Int := if roomP N q a wy > far - f then far - f else roomP N q a wy
def partP (q a b : Int) : Int × Int × Int := if a > b then (q, b, a) else (q, a, b)

inductive DriveR (N : Nt) (xs : List Int) (far : Int) : Int → Int → Int → Int → Nat → List (Int × Int × Int) → DRes → Prop
  | done {f q a wy ov ps} (h : ¬ f < far) : DriveR N xs far f q a wy ov ps ⟨0, f, -1, q, a, wy, ps⟩
  | stop {f q a wy ov ps j i} (hj : j < N.jts.length) (hx : j < xs.length) (h : f < far) (hr : roomP N q a wy = 0) (hat : At N.jts (headP q wy) j i) (hc : ¬ (overP N.jts[j] (headP q wy) i xs[j]).2 = 0) : DriveR N xs far f q a wy ov ps ⟨(overP N.jts[j] (headP q wy) i xs[j]).2, f, j, q, a, wy, ps⟩
  | many {f q a wy ov ps j i} (hj : j < N.jts.length) (hx : j < xs.length) (h : f < far) (hr : roomP N q a wy = 0) (hat : At N.jts (headP q wy) j i) (hc : (overP N.jts[j] (headP q wy) i xs[j]).2 = 0) (ho : ov = 1000) : DriveR N xs far f q a wy ov ps ⟨5, f, j, q, a, wy, ps⟩
  | over {f q a wy ov ps j i r} (hj : j < N.jts.length) (hx : j < xs.length) (h : f < far) (hr : roomP N q a wy = 0) (hat : At N.jts (headP q wy) j i) (hc : (overP N.jts[j] (headP q wy) i xs[j]).2 = 0) (ho : ¬ ov = 1000)
      (n : DriveR N xs far f (enterP N (overP N.jts[j] (headP q wy) i xs[j]).1).1 (enterP N (overP N.jts[j] (headP q wy) i xs[j]).1).2.1 (enterP N (overP N.jts[j] (headP q wy) i xs[j]).1).2.2 (ov + 1) ps r) : DriveR N xs far f q a wy ov ps r
  | go {f q a wy ov ps r} (h : f < far) (hr : ¬ roomP N q a wy = 0)
      (n : DriveR N xs far (f + stepP N far f q a wy) q (a + stepP N far f q a wy * wy) wy ov (ps ++ [partP q a (a + stepP N far f q a wy * wy)]) r) : DriveR N xs far f q a wy ov ps r

theorem headP_ok {N : Nt} {q a wy : Int} (h : spotP N q a wy = true) : endOk N.pcs.length (headP q wy) = true := by
  simp only [spotP, Bool.and_eq_true, inR, decide_eq_true_eq] at h
  unfold headP endOk inR
  split
  · simp only [Bool.and_eq_true, decide_eq_true_eq]; omega
  · simp only [Bool.and_eq_true, decide_eq_true_eq]; omega

theorem at_one {N : Nt} (hr : netOk N = (0, 0)) {e : Int × Int} {j i j' i' : Nat} (h : At N.jts e j i) (h' : At N.jts e j' i') : j = j' ∧ i = i' :=
  h.unique h' (uses_right hr (endOk_of_at (right_facts hr).2.2.1 h))

theorem drive_one {N : Nt} {xs : List Int} {far : Int} (hr : netOk N = (0, 0)) {f q a wy : Int} {ov : Nat} {ps : List (Int × Int × Int)} {r r' : DRes}
    (h : DriveR N xs far f q a wy ov ps r) (h' : DriveR N xs far f q a wy ov ps r') : r = r' := by
  induction h with
  | done h =>
    cases h' with
    | done => rfl
    | stop _ _ h1 => exact absurd h1 h
    | many _ _ h1 => exact absurd h1 h
    | over _ _ h1 => exact absurd h1 h
    | go h1 => exact absurd h1 h
  | stop hj hx h hrm hat hc =>
    cases h' with
    | done h1 => exact absurd h h1
    | stop _ _ _ _ hat' _ => obtain ⟨rfl, rfl⟩ := at_one hr hat hat'; rfl
    | many _ _ _ _ hat' hc' => obtain ⟨rfl, rfl⟩ := at_one hr hat hat'; exact absurd hc' hc
    | over _ _ _ _ hat' hc' => obtain ⟨rfl, rfl⟩ := at_one hr hat hat'; exact absurd hc' hc
    | go _ h1 => exact absurd hrm h1
  | many hj hx h hrm hat hc ho =>
    cases h' with
    | done h1 => exact absurd h h1
    | stop _ _ _ _ hat' hc' => obtain ⟨rfl, rfl⟩ := at_one hr hat hat'; exact absurd hc hc'
    | many _ _ _ _ hat' _ _ => obtain ⟨rfl, rfl⟩ := at_one hr hat hat'; rfl
    | over _ _ _ _ _ _ ho' => exact absurd ho ho'
    | go _ h1 => exact absurd hrm h1
  | over hj hx h hrm hat hc ho n ih =>
    cases h' with
    | done h1 => exact absurd h h1
    | stop _ _ _ _ hat' hc' => obtain ⟨rfl, rfl⟩ := at_one hr hat hat'; exact absurd hc hc'
    | many _ _ _ _ _ _ ho' => exact absurd ho' ho
    | over _ _ _ _ hat' _ _ n' => obtain ⟨rfl, rfl⟩ := at_one hr hat hat'; exact ih n'
    | go _ h1 => exact absurd hrm h1
  | go h hrm n ih =>
    cases h' with
    | done h1 => exact absurd h h1
    | stop _ _ _ h1 => exact absurd h1 hrm
    | many _ _ _ h1 => exact absurd h1 hrm
    | over _ _ _ h1 => exact absurd h1 hrm
    | go _ _ n' => exact ih n'

theorem mem_ends_ok {N : Nt} (hr : netOk N = (0, 0)) {j : Nat} (hj : j < N.jts.length) {e : Int × Int} (h : e ∈ N.jts[j].ends) : endOk N.pcs.length e = true := by
  obtain ⟨i, hi, he⟩ := List.getElem_of_mem h
  exact endOk_of_at (right_facts hr).2.2.1 ⟨hj, hi, he⟩

theorem acr_sub {j : Jt} {i : Nat} {e : Int × Int} (h : e ∈ acr j i) : e ∈ j.ends := by
  unfold acr at h
  repeat' split at h
  all_goals
    simp only [List.mem_append, Option.mem_toList, List.not_mem_nil] at h
    try (rcases h with h | h) <;> exact List.mem_of_getElem? h
    try exact List.mem_of_getElem? h

/-- The end behind a joint is an end of a piece. -/
theorem overP_ok {N : Nt} {xs : List Int} (hr : netOk N = (0, 0)) (hl : liesP N.jts xs = true) {e : Int × Int} {j i : Nat} (hj : j < N.jts.length) (hx : j < xs.length) (hat : At N.jts e j i) (hc : (overP N.jts[j] e i xs[j]).2 = 0) :
    endOk N.pcs.length (overP N.jts[j] e i xs[j]).1 = true := by
  have hB3 : jb3 N.pcs.length N.jts[j] = false := by rw [← jtBad3_jb3 hj]; exact (right_facts hr).2.2.1 j hj
  obtain ⟨⟨hk1, hk4⟩, hkl⟩ := jb3_len hB3
  obtain ⟨_, hil, _⟩ := hat
  have hlie : lieOk N.jts[j] xs[j] = true := by
    cases hbad : lieOk N.jts[j] xs[j]
    · rw [liesP_bad hj hx hbad] at hl; simp at hl
    · rfl
  have hx02 : 0 ≤ xs[j] ∧ xs[j] ≤ 2 := by simp only [lieOk, inR, Bool.and_eq_true, decide_eq_true_eq] at hlie; omega
  unfold overP at hc ⊢
  by_cases k1 : N.jts[j].kind = 1
  · rw [if_pos k1] at hc; simp at hc
  rw [if_neg k1] at hc ⊢
  by_cases k2 : N.jts[j].kind = 3 ∧ xs[j] = 0
  · rw [if_pos k2] at hc; simp at hc
  rw [if_neg k2] at hc ⊢
  by_cases k3 : N.jts[j].kind = 3 ∧ i = 0
  · rw [if_pos k3]
    have hlt : xs[j].toNat < N.jts[j].ends.length := by omega
    simp only [List.getElem?_eq_getElem hlt, Option.getD_some]
    exact mem_ends_ok hr hj (List.getElem_mem hlt)
  rw [if_neg k3] at hc ⊢
  by_cases k4 : N.jts[j].kind = 3 ∧ (i : Int) ≠ xs[j]
  · rw [if_pos k4] at hc; simp at hc
  rw [if_neg k4]
  have hpos : 0 < (acr N.jts[j] i).length := by
    unfold acr
    by_cases q2 : N.jts[j].kind = 2
    · have : 1 - i < N.jts[j].ends.length := by omega
      simp [q2, this]
    · by_cases q3 : N.jts[j].kind = 3
      · have h0 : i ≠ 0 := fun e => k3 ⟨q3, e⟩
        have : 0 < N.jts[j].ends.length := by omega
        simp [q3, h0, this]
      · have q4 : N.jts[j].kind = 4 := by omega
        have : (if i = 0 then 1 else if i = 1 then 0 else if i = 2 then 3 else 2) < N.jts[j].ends.length := by split; omega; split; omega; split <;> omega
        simp [q4, this]
  simp only [List.getElem?_eq_getElem hpos, Option.getD_some]
  exact mem_ends_ok hr hj (acr_sub (List.getElem_mem hpos))

theorem enterP_ok {N : Nt} (hr : netOk N = (0, 0)) {e : Int × Int} (h : endOk N.pcs.length e = true) : spotP N (enterP N e).1 (enterP N e).2.1 (enterP N e).2.2 = true := by
  simp only [endOk, inR, Bool.and_eq_true, decide_eq_true_eq] at h
  obtain ⟨k, hk⟩ := Int.eq_ofNat_of_zero_le h.1.1
  have hkl : k < N.pcs.length := by omega
  have hpc : 0 ≤ N.pcs[k].len := by
    have h2 := (right_facts hr).2.1 k hkl
    rw [pcBad_eq hkl] at h2
    simp only [Bool.or_eq_false_iff, Bool.not_eq_false', Pc.ok, Bool.and_eq_true, inR, decide_eq_true_eq] at h2
    omega
  have hlen : lenAt N e.1 = N.pcs[k].len := by rw [hk]; exact lenAt_nat N k hkl
  unfold enterP
  split
  · simp only [spotP, inR, Bool.and_eq_true, decide_eq_true_eq, hlen]
    refine ⟨⟨by omega, by rfl⟩, by omega⟩
  · simp only [spotP, inR, Bool.and_eq_true, decide_eq_true_eq, hlen]
    refine ⟨⟨by omega, by rfl⟩, by omega⟩
end Go.Proofs.Yteapmddadieohaa
