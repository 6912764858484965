/- Drives add up: plain. Own work. -/
import Derived.Test.YteapmddadieohaaDrD
namespace Go.Proofs.Yteapmddadieohaa

/-- What a drive comes to but for its parts. -/
structure SameD (r r' : DRes) : Prop where
  code : r.code = r'.code
  far : r.far = r'.far
  joint : r.joint = r'.joint
  q : r.q = r'.q
  at' : r.at' = r'.at'
  way : r.way = r'.way
theorem SameD.refl (r : DRes) : SameD r r := ⟨rfl, rfl, rfl, rfl, rfl, rfl⟩
theorem SameD.symm {r r' : DRes} (h : SameD r r') : SameD r' r := ⟨h.code.symm, h.far.symm, h.joint.symm, h.q.symm, h.at'.symm, h.way.symm⟩
theorem SameD.trans {r r' r'' : DRes} (h : SameD r r') (k : SameD r' r'') : SameD r r'' := ⟨h.code.trans k.code, h.far.trans k.far, h.joint.trans k.joint, h.q.trans k.q, h.at'.trans k.at', h.way.trans k.way⟩

/-- The parts that lie ahead don't matter. -/
theorem drive_parts {N : Nt} {xs : List Int} {far : Int} {f q a wy : Int} {ov : Nat} {ps : List (Int × Int × Int)} {r : DRes}
    (h : DriveR N xs far f q a wy ov ps r) : ∀ ps', ∃ r', DriveR N xs far f q a wy ov ps' r' ∧ SameD r' r := by
  induction h with
  | done h => exact fun ps' => ⟨_, .done h, ⟨rfl, rfl, rfl, rfl, rfl, rfl⟩⟩
  | stop hj hx h hrm hat hc => exact fun ps' => ⟨_, .stop hj hx h hrm hat hc, ⟨rfl, rfl, rfl, rfl, rfl, rfl⟩⟩
  | many hj hx h hrm hat hc ho => exact fun ps' => ⟨_, .many hj hx h hrm hat hc ho, ⟨rfl, rfl, rfl, rfl, rfl, rfl⟩⟩
  | over hj hx h hrm hat hc ho n ih =>
    intro ps'
    obtain ⟨r', h1, h2⟩ := ih ps'
    exact ⟨r', .over hj hx h hrm hat hc ho h1, h2⟩
  | go h hrm n ih =>
    intro ps'
    obtain ⟨r', h1, h2⟩ := ih (ps' ++ [_])
    exact ⟨r', .go h hrm h1, h2⟩

/-- Over how many joints a drive has come doesn't matter, where neither goes over too many. -/
theorem drive_core {N : Nt} {xs : List Int} {far : Int} (hr : netOk N = (0, 0)) {f q a wy : Int} {ov : Nat} {ps : List (Int × Int × Int)} {r : DRes}
    (h : DriveR N xs far f q a wy ov ps r) : ∀ {ov' ps' r'}, DriveR N xs far f q a wy ov' ps' r' → ¬ r.code = 5 → ¬ r'.code = 5 → SameD r r' := by
  induction h with
  | done h =>
    intro ov' ps' r' h' _ _
    cases h' with
    | done => exact ⟨rfl, rfl, rfl, rfl, rfl, rfl⟩
    | stop _ _ h1 => exact absurd h1 h
    | many _ _ h1 => exact absurd h1 h
    | over _ _ h1 => exact absurd h1 h
    | go h1 => exact absurd h1 h
  | stop hj hx h hrm hat hc =>
    intro ov' ps' r' h' _ _
    cases h' with
    | done h1 => exact absurd h h1
    | stop _ _ _ _ hat' _ => obtain ⟨rfl, rfl⟩ := at_one hr hat hat'; exact ⟨rfl, rfl, rfl, rfl, rfl, rfl⟩
    | many _ _ _ _ hat' hc' => obtain ⟨rfl, rfl⟩ := at_one hr hat hat'; exact absurd hc' hc
    | over _ _ _ _ hat' hc' => obtain ⟨rfl, rfl⟩ := at_one hr hat hat'; exact absurd hc' hc
    | go _ h1 => exact absurd hrm h1
  | many hj hx h hrm hat hc ho =>
    intro ov' ps' r' h' h5 _
    exact absurd rfl h5
  | over hj hx h hrm hat hc ho n ih =>
    intro ov' ps' r' h' h5 h5'
    cases h' with
    | done h1 => exact absurd h h1
    | stop _ _ _ _ hat' hc' => obtain ⟨rfl, rfl⟩ := at_one hr hat hat'; exact absurd hc hc'
    | many _ _ _ _ _ _ ho' => exact absurd rfl h5'
    | over _ _ _ _ hat' _ _ n' => obtain ⟨rfl, rfl⟩ := at_one hr hat hat'; exact ih n' h5 h5'
    | go _ h1 => exact absurd hrm h1
  | go h hrm n ih =>
    intro ov' ps' r' h' h5 h5'
    cases h' with
    | done h1 => exact absurd h h1
    | stop _ _ _ h1 => exact absurd h1 hrm
    | many _ _ _ h1 => exact absurd h1 hrm
    | over _ _ _ h1 => exact absurd h1 hrm
    | go _ _ n' => exact ih n' h5 h5'

/-- How far one has come may be counted from elsewhere. -/
theorem drive_shift {N : Nt} {xs : List Int} {far : Int} (c : Int) {f q a wy : Int} {ov : Nat} {ps : List (Int × Int × Int)} {r : DRes}
    (h : DriveR N xs far f q a wy ov ps r) : DriveR N xs (far - c) (f - c) q a wy ov ps ⟨r.code, r.far - c, r.joint, r.q, r.at', r.way, r.ps⟩ := by
  induction h with
  | done h => exact .done (by omega)
  | stop hj hx h hrm hat hc => exact .stop hj hx (by omega) hrm hat hc
  | many hj hx h hrm hat hc ho => exact .many hj hx (by omega) hrm hat hc ho
  | over hj hx h hrm hat hc ho n ih => exact .over hj hx (by omega) hrm hat hc ho ih
  | @go f q a wy ov ps r h hrm n ih =>
    have e : stepP N (far - c) (f - c) q a wy = stepP N far f q a wy := by
      unfold stepP
      rw [show far - c - (f - c) = far - f by omega]
    refine .go (by omega) hrm ?_
    rw [e, show f - c + stepP N far f q a wy = f + stepP N far f q a wy - c by omega]
    exact ih

/-- A drive that ends early ends there also where it should have gone farther. -/
theorem drive_early {N : Nt} {xs : List Int} {far : Int} {far' : Int} (hf : far ≤ far') {f q a wy : Int} {ov : Nat} {ps : List (Int × Int × Int)} {r : DRes}
    (h : DriveR N xs far f q a wy ov ps r) : ¬ r.code = 0 → DriveR N xs far' f q a wy ov ps r := by
  induction h with
  | done h => exact fun hc => absurd rfl hc
  | stop hj hx h hrm hat hc => exact fun _ => .stop hj hx (by omega) hrm hat hc
  | many hj hx h hrm hat hc ho => exact fun _ => .many hj hx (by omega) hrm hat hc ho
  | over hj hx h hrm hat hc ho n ih => exact fun h0 => .over hj hx (by omega) hrm hat hc ho (ih h0)
  | @go f q a wy ov ps r h hrm n ih =>
    intro h0
    by_cases ht : roomP N q a wy > far - f
    · have e : stepP N far f q a wy = far - f := by unfold stepP; rw [if_pos ht]
      rw [e] at n
      cases n with
      | done => exact absurd rfl h0
      | stop _ _ h1 => omega
      | many _ _ h1 => omega
      | over _ _ h1 => omega
      | go h1 => omega
    · have e : stepP N far' f q a wy = stepP N far f q a wy := by
        unfold stepP; rw [if_neg ht, if_neg (by omega)]
      have := ih h0
      rw [← e] at this
      exact .go (by omega) hrm this

theorem room_on {N : Nt} {q a wy t : Int} (hw : wy = 1 ∨ wy = -1) : roomP N q (a + t * wy) wy = roomP N q a wy - t := by
  unfold roomP
  rcases hw with rfl | rfl
  · rw [if_pos rfl, if_pos rfl]; omega
  · rw [if_neg (by omega), if_neg (by omega)]; omega
theorem room_spot {N : Nt} {q a wy : Int} (h : spotP N q a wy = true) : 0 ≤ roomP N q a wy := by
  simp only [spotP, Bool.and_eq_true, inR, decide_eq_true_eq] at h
  unfold roomP
  split <;> omega
theorem spot_way {N : Nt} {q a wy : Int} (h : spotP N q a wy = true) : wy = 1 ∨ wy = -1 := by
  simp only [spotP, Bool.and_eq_true, Bool.or_eq_true, beq_iff_eq] at h
  exact h.1.2
theorem spot_go {N : Nt} {q a wy t : Int} (h : spotP N q a wy = true) (h0 : 0 ≤ t) (h1 : t ≤ roomP N q a wy) : spotP N q (a + t * wy) wy = true := by
  have hw := spot_way h
  simp only [spotP, Bool.and_eq_true, inR, decide_eq_true_eq] at h ⊢
  refine ⟨h.1, ?_⟩
  unfold roomP at h1
  rcases hw with rfl | rfl
  · rw [if_pos rfl] at h1; omega
  · rw [if_neg (by omega)] at h1; omega
theorem step_le {N : Nt} {far f q a wy : Int} : stepP N far f q a wy ≤ roomP N q a wy ∧ stepP N far f q a wy ≤ far - f := by
  unfold stepP; split <;> omega
theorem step_pos {N : Nt} {far f q a wy : Int} (h : f < far) (hs : spotP N q a wy = true) (hr : ¬ roomP N q a wy = 0) : 0 < stepP N far f q a wy := by
  have := room_spot hs
  unfold stepP; split <;> omega

/-- Where a drive comes to is a spot, and it is no farther than it should be. -/
theorem drive_spot {N : Nt} {xs : List Int} {far : Int} (hr : netOk N = (0, 0)) (hl : liesP N.jts xs = true) {f q a wy : Int} {ov : Nat} {ps : List (Int × Int × Int)} {r : DRes}
    (h : DriveR N xs far f q a wy ov ps r) : spotP N q a wy = true → f ≤ far → spotP N r.q r.at' r.way = true ∧ f ≤ r.far ∧ r.far ≤ far ∧ (r.code = 0 → r.far = far ∧ r.joint = -1) := by
  induction h with
  | done h => exact fun hs hf => ⟨hs, Int.le_refl _, hf, fun _ => ⟨by dsimp only; omega, rfl⟩⟩
  | stop hj hx h hrm hat hc => exact fun hs hf => ⟨hs, Int.le_refl _, hf, fun h0 => absurd h0 hc⟩
  | many hj hx h hrm hat hc ho => exact fun hs hf => ⟨hs, Int.le_refl _, hf, fun h0 => by simp at h0⟩
  | over hj hx h hrm hat hc ho n ih => exact fun hs hf => ih (enterP_ok hr (overP_ok hr hl hj hx hat hc)) hf
  | @go f q a wy ov ps r h hrm n ih =>
    intro hs hf
    have hp := step_pos h hs hrm
    have hle := step_le (N := N) (far := far) (f := f) (q := q) (a := a) (wy := wy)
    obtain ⟨h1, h2, h3, h4⟩ := ih (spot_go hs (by omega) hle.1) (by omega)
    exact ⟨h1, by omega, h3, h4⟩

/-- To drive farther at once is to drive on from where one is. -/
theorem drive_cut {N : Nt} {xs : List Int} {A B : Int} (hr : netOk N = (0, 0)) (hl : liesP N.jts xs = true) (hAB : A ≤ B) {f q a wy : Int} {ov : Nat} {ps : List (Int × Int × Int)} {r : DRes}
    (h : DriveR N xs A f q a wy ov ps r) : spotP N q a wy = true → f ≤ A → r.code = 0 → ∀ {ps2 y}, DriveR N xs B f q a wy ov ps2 y → ∃ ov' ps' y', DriveR N xs B A r.q r.at' r.way ov' ps' y' ∧ SameD y' y := by
  induction h with
  | @done f q a wy ov ps h =>
    intro hs hf _ ps2 y hy
    obtain rfl : f = A := by omega
    exact ⟨_, _, _, hy, SameD.refl _⟩
  | stop hj hx h hrm hat hc => exact fun _ _ h0 => absurd h0 hc
  | many hj hx h hrm hat hc ho => exact fun _ _ h0 => by simp at h0
  | over hj hx h hrm hat hc ho n ih =>
    intro hs hf h0 ps2 y hy
    cases hy with
    | done h1 => omega
    | stop _ _ _ _ hat' hc' => obtain ⟨rfl, rfl⟩ := at_one hr hat hat'; exact absurd hc hc'
    | many _ _ _ _ _ _ ho' => exact absurd ho' ho
    | over _ _ _ _ hat' _ _ n' =>
      obtain ⟨rfl, rfl⟩ := at_one hr hat hat'
      exact ih (enterP_ok hr (overP_ok hr hl hj hx hat hc)) hf h0 n'
    | go _ h1 => exact absurd hrm h1
  | @go f q a wy ov ps r h hrm n ih =>
    intro hs hf h0 ps2 y hy
    have hw := spot_way hs
    cases hy with
    | done h1 => omega
    | stop _ _ _ h1 => exact absurd h1 hrm
    | many _ _ _ h1 => exact absurd h1 hrm
    | over _ _ _ h1 => exact absurd h1 hrm
    | go _ _ n' =>
      by_cases ht : roomP N q a wy > A - f
      · have e : stepP N A f q a wy = A - f := by unfold stepP; rw [if_pos ht]
        rw [e, show f + (A - f) = A by omega] at n
        cases n with
        | done =>
          dsimp only
          by_cases hlt : A < B
          · have hroom := room_on (N := N) (q := q) (a := a) (t := A - f) hw
            have hrm' : ¬ roomP N q (a + (A - f) * wy) wy = 0 := by rw [hroom]; omega
            have est : stepP N B A q (a + (A - f) * wy) wy = stepP N B f q a wy - (A - f) := by
              unfold stepP
              rw [hroom]
              by_cases hb : roomP N q a wy > B - f
              · rw [if_pos hb, if_pos (by omega)]; omega
              · rw [if_neg hb, if_neg (by omega)]
            obtain ⟨y', h1, h2⟩ := drive_parts n' (ps ++ [partP q a (a + (A - f) * wy)] ++ [partP q (a + (A - f) * wy) (a + (A - f) * wy + stepP N B A q (a + (A - f) * wy) wy * wy)])
            refine ⟨ov, ps ++ [partP q a (a + (A - f) * wy)], y', .go hlt hrm' ?_, h2⟩
            have e1 : A + stepP N B A q (a + (A - f) * wy) wy = f + stepP N B f q a wy := by rw [est]; omega
            have e2 : a + (A - f) * wy + stepP N B A q (a + (A - f) * wy) wy * wy = a + stepP N B f q a wy * wy := by
              rw [est]
              rcases hw with rfl | rfl <;> omega
            rw [e1, e2]
            rw [e2] at h1
            exact h1
          · obtain rfl : A = B := by omega
            rw [e, show f + (A - f) = A by omega] at n'
            obtain ⟨y', h1, h2⟩ := drive_parts n' (ps ++ [partP q a (a + (A - f) * wy)])
            exact ⟨ov, _, y', h1, h2⟩
        | stop _ _ h1 => omega
        | many _ _ h1 => omega
        | over _ _ h1 => omega
        | go h1 => omega
      · have e : stepP N B f q a wy = stepP N A f q a wy := by
          unfold stepP; rw [if_neg ht, if_neg (by omega)]
        rw [e] at n'
        have hp := step_pos h hs hrm
        have hle := step_le (N := N) (far := A) (f := f) (q := q) (a := a) (wy := wy)
        exact ih (spot_go hs (by omega) hle.1) (by omega) h0 n'

/-- P3: to drive on from where one is is to drive farther at once. -/
theorem drive_on {N : Nt} {xs : List Int} {A B : Int} (hr : netOk N = (0, 0)) (hl : liesP N.jts xs = true) (h0 : 0 ≤ A) (hB : 0 ≤ B) {q a wy : Int} {x y z : DRes} (hs : spotP N q a wy = true)
    (hx : DriveR N xs A 0 q a wy 0 [] x) (hy : DriveR N xs (A + B) 0 q a wy 0 [] y) (hz : DriveR N xs B 0 x.q x.at' x.way 0 [] z) (hc : x.code = 0) (hz5 : ¬ z.code = 5) (hy5 : ¬ y.code = 5) :
    z.code = y.code ∧ z.q = y.q ∧ z.at' = y.at' ∧ z.way = y.way ∧ z.joint = y.joint ∧ z.far + A = y.far := by
  obtain ⟨ov', ps', y', h1, h2⟩ := drive_cut hr hl (by omega) hx hs h0 hc hy
  have h3 := drive_shift A h1
  rw [show A + B - A = B by omega, show A - A = 0 by omega] at h3
  have h4 := drive_core hr hz h3 hz5 (by dsimp only; rw [h2.code]; exact hy5)
  obtain ⟨c1, c2, c3, c4, c5, c6⟩ := h4
  dsimp only at c1 c2 c3 c4 c5 c6
  have hf := h2.far
  exact ⟨c1.trans h2.code, c4.trans h2.q, c5.trans h2.at', c6.trans h2.way, c3.trans h2.joint, by omega⟩
end Go.Proofs.Yteapmddadieohaa
