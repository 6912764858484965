/- To drive, turn and drive as far is to come back: plain. Own work. -/
import Derived.Test.YteapmddadieohaaDvA
namespace Go.Proofs.Yteapmddadieohaa

theorem lieOk_of {N : Nt} {xs : List Int} (hl : liesP N.jts xs = true) {j : Nat} (hj : j < N.jts.length) (hx : j < xs.length) : lieOk N.jts[j] xs[j] = true := by
  cases hbad : lieOk N.jts[j] xs[j]
  · rw [liesP_bad hj hx hbad] at hl; simp at hl
  · rfl

theorem getD_some {es : List (Int × Int)} {k : Nat} (h : k < es.length) : (es[k]?).getD (0, 0) = es[k] := by
  rw [List.getElem?_eq_getElem h]; rfl
theorem toList_0 {es : List (Int × Int)} {k : Nat} (h : k < es.length) : (((es[k]?).toList)[0]?).getD (0, 0) = es[k] := by
  rw [List.getElem?_eq_getElem h]; rfl

/-- Over a joint and back. -/
theorem over_back {N : Nt} {xs : List Int} (hr : netOk N = (0, 0)) (hl : liesP N.jts xs = true) {e : Int × Int} {j i : Nat} (hj : j < N.jts.length) (hx : j < xs.length) (hat : At N.jts e j i) (hc : (overP N.jts[j] e i xs[j]).2 = 0) :
    ∃ i', At N.jts (overP N.jts[j] e i xs[j]).1 j i' ∧ overP N.jts[j] (overP N.jts[j] e i xs[j]).1 i' xs[j] = (e, 0) := by
  have hB3 : jb3 N.pcs.length N.jts[j] = false := by rw [← jtBad3_jb3 hj]; exact (right_facts hr).2.2.1 j hj
  obtain ⟨⟨hk1, hk4⟩, hkl⟩ := jb3_len hB3
  obtain ⟨_, hil, he⟩ := hat
  have hlie := lieOk_of hl hj hx
  have hx02 : 0 ≤ xs[j] ∧ xs[j] ≤ 2 := by simp only [lieOk, inR, Bool.and_eq_true, decide_eq_true_eq] at hlie; omega
  generalize xs[j] = x at *
  by_cases k1 : N.jts[j].kind = 1
  · rw [overP, if_pos k1] at hc; simp at hc
  by_cases k2 : N.jts[j].kind = 3 ∧ x = 0
  · rw [overP, if_neg k1, if_pos k2] at hc; simp at hc
  by_cases k3 : N.jts[j].kind = 3 ∧ i = 0
  · have hlt : x.toNat < N.jts[j].ends.length := by omega
    have e1 : (overP N.jts[j] e i x).1 = N.jts[j].ends[x.toNat] := by
      rw [overP, if_neg k1, if_neg k2, if_pos k3, getD_some hlt]
    rw [e1]
    refine ⟨x.toNat, ⟨hj, hlt, rfl⟩, ?_⟩
    have hx0 : ¬ x = 0 := fun h => k2 ⟨k3.1, h⟩
    have n3 : ¬ (N.jts[j].kind = 3 ∧ x.toNat = 0) := fun h => hx0 (by omega)
    have n4 : ¬ (N.jts[j].kind = 3 ∧ (x.toNat : Int) ≠ x) := fun h => h.2 (by omega)
    rw [overP, if_neg k1, if_neg k2, if_neg n3, if_neg n4]
    have e0 : 0 < N.jts[j].ends.length := by omega
    have n2 : ¬ N.jts[j].kind = 2 := by omega
    have nx : ¬ x.toNat = 0 := by omega
    rw [acr, if_neg n2, if_pos k3.1, if_neg nx, toList_0 e0, ← he]
    simp only [k3.2]
  by_cases k4 : N.jts[j].kind = 3 ∧ (i : Int) ≠ x
  · rw [overP, if_neg k1, if_neg k2, if_neg k3, if_pos k4] at hc; simp at hc
  by_cases q3 : N.jts[j].kind = 3
  · have hi0 : ¬ i = 0 := fun h => k3 ⟨q3, h⟩
    have hix : (i : Int) = x := Classical.byContradiction fun h => k4 ⟨q3, h⟩
    have e0 : 0 < N.jts[j].ends.length := by omega
    have n2 : ¬ N.jts[j].kind = 2 := by omega
    have e1 : (overP N.jts[j] e i x).1 = N.jts[j].ends[0] := by
      rw [overP, if_neg k1, if_neg k2, if_neg k3, if_neg k4, acr, if_neg n2, if_pos q3, if_neg hi0, toList_0 e0]
    rw [e1]
    refine ⟨0, ⟨hj, e0, rfl⟩, ?_⟩
    have hlt : x.toNat < N.jts[j].ends.length := by omega
    rw [overP, if_neg k1, if_neg k2, if_pos ⟨q3, rfl⟩, getD_some hlt]
    have hxi : x.toNat = i := by omega
    simp only [hxi, he]
  have t3 : ∀ (P : Prop), ¬ (N.jts[j].kind = 3 ∧ P) := fun P h => q3 h.1
  by_cases q2 : N.jts[j].kind = 2
  · have h1 : 1 - i < N.jts[j].ends.length := by omega
    have e1 : (overP N.jts[j] e i x).1 = N.jts[j].ends[1 - i] := by
      rw [overP, if_neg k1, if_neg (t3 _), if_neg (t3 _), if_neg (t3 _), acr, if_pos q2, toList_0 h1]
    rw [e1]
    refine ⟨1 - i, ⟨hj, h1, rfl⟩, ?_⟩
    have h2 : 1 - (1 - i) < N.jts[j].ends.length := by omega
    rw [overP, if_neg k1, if_neg (t3 _), if_neg (t3 _), if_neg (t3 _), acr, if_pos q2, toList_0 h2]
    have hii : 1 - (1 - i) = i := by omega
    simp only [hii, he]
  · have q4 : N.jts[j].kind = 4 := by omega
    generalize hm : (if i = 0 then 1 else if i = 1 then 0 else if i = 2 then 3 else 2) = m
    have hm4 : m < 4 := by rw [← hm]; split; omega; split; omega; split <;> omega
    have h1 : m < N.jts[j].ends.length := by omega
    have e1 : (overP N.jts[j] e i x).1 = N.jts[j].ends[m] := by
      rw [overP, if_neg k1, if_neg (t3 _), if_neg (t3 _), if_neg (t3 _), acr, if_neg q2, if_neg q3, if_pos q4, hm, toList_0 h1]
    rw [e1]
    refine ⟨m, ⟨hj, h1, rfl⟩, ?_⟩
    have hmi : (if m = 0 then 1 else if m = 1 then 0 else if m = 2 then 3 else 2) = i := by
      have hi4 : i < 4 := by omega
      rw [← hm]
      have : i = 0 ∨ i = 1 ∨ i = 2 ∨ i = 3 := by omega
      rcases this with rfl | rfl | rfl | rfl <;> rfl
    rw [overP, if_neg k1, if_neg (t3 _), if_neg (t3 _), if_neg (t3 _), acr, if_neg q2, if_neg q3, if_pos q4, hmi, toList_0 hil, he]

theorem spot_turn {N : Nt} {q a wy : Int} (h : spotP N q a wy = true) : spotP N q a (-wy) = true := by
  have hw := spot_way h
  simp only [spotP, Bool.and_eq_true, Bool.or_eq_true, beq_iff_eq] at h ⊢
  exact ⟨⟨h.1.1, by omega⟩, h.2⟩

/-- At the end to which one looks: turned, one has just come over its joint. -/
theorem enter_back {N : Nt} {q a wy : Int} (hs : spotP N q a wy = true) (h0 : roomP N q a wy = 0) : enterP N (headP q wy) = (q, a, -wy) := by
  rcases spot_way hs with rfl | rfl
  · have hl : lenAt N q = a := by unfold roomP at h0; rw [if_pos rfl] at h0; omega
    simp [headP, enterP, hl]
  · have ha : a = 0 := by unfold roomP at h0; rw [if_neg (by omega)] at h0; exact h0
    simp [headP, enterP, ha]
/-- Just behind a joint: turned, one looks at its end and is there. -/
theorem enter_turn {N : Nt} {e : Int × Int} (he : endOk N.pcs.length e = true) : headP (enterP N e).1 (-(enterP N e).2.2) = e ∧ roomP N (enterP N e).1 (enterP N e).2.1 (-(enterP N e).2.2) = 0 := by
  obtain ⟨p, s⟩ := e
  have hs : s = 0 ∨ s = 1 := by
    simp only [endOk, inR, Bool.and_eq_true, decide_eq_true_eq] at he
    omega
  rcases hs with rfl | rfl
  · simp [enterP, headP, roomP]
  · simp [enterP, headP, roomP]

/-- The way back of a drive, seen from one of its states. -/
theorem drive_rev {N : Nt} {xs : List Int} {far : Int} (hr : netOk N = (0, 0)) (hl : liesP N.jts xs = true) {f q a wy : Int} {ov : Nat} {ps : List (Int × Int × Int)} {r : DRes}
    (h : DriveR N xs far f q a wy ov ps r) : spotP N q a wy = true → 0 ≤ f → f ≤ far → ov ≤ 1000 → ((f = 0 ∧ ¬ roomP N q a wy = 0) ∨ (0 < f ∧ (roomP N q a wy = 0 ∨ roomP N q a (-wy) = 0)) ∨ f = far) →
    ∃ m : Nat, ov + m ≤ 1000 ∧ ∀ ps' y, DriveR N xs r.far (r.far - f) q a (-wy) m ps' y → ∃ ps2 y2, DriveR N xs r.far 0 r.q r.at' (-r.way) 0 ps2 y2 ∧ SameD y2 y := by
  induction h with
  | done h =>
    intro _ _ _ ho _
    refine ⟨0, ho, fun ps' y hy => ⟨ps', y, ?_, SameD.refl _⟩⟩
    dsimp only at hy ⊢
    rwa [Int.sub_self] at hy
  | stop hj hx h hrm hat hc =>
    intro _ _ _ ho _
    refine ⟨0, ho, fun ps' y hy => ⟨ps', y, ?_, SameD.refl _⟩⟩
    dsimp only at hy ⊢
    rwa [Int.sub_self] at hy
  | many hj hx h hrm hat hc ho =>
    intro _ _ _ ho _
    refine ⟨0, ho, fun ps' y hy => ⟨ps', y, ?_, SameD.refl _⟩⟩
    dsimp only at hy ⊢
    rwa [Int.sub_self] at hy
  | @over f q a wy ov ps j i r hj hx h hrm hat hc ho n ih =>
    intro hs hf0 hff hov hJ
    have hf : 0 < f := by
      rcases hJ with ⟨_, h1⟩ | ⟨h1, _⟩ | h1
      · exact absurd hrm h1
      · exact h1
      · omega
    have hok := overP_ok hr hl hj hx hat hc
    have hen := enterP_ok hr hok
    obtain ⟨ht1, ht2⟩ := enter_turn hok
    obtain ⟨i', hat', hov'⟩ := over_back hr hl hj hx hat hc
    obtain ⟨m, hm, hall⟩ := ih hen hf0 hff (by omega) (.inr (.inl ⟨hf, .inr ht2⟩))
    refine ⟨m + 1, by omega, fun ps' y hy => ?_⟩
    have hsp := drive_spot hr hl n hen hff
    generalize he' : (overP N.jts[j] (headP q wy) i xs[j]).1 = e' at *
    refine hall ps' y (.over (j := j) (i := i') hj hx (by omega) ht2 (by rw [ht1]; exact hat') ?_ (by omega) ?_)
    · rw [ht1, hov']
    · rw [ht1, hov']
      dsimp only
      rw [enter_back hs hrm]
      exact hy
  | @go f q a wy ov ps r h hrm n ih =>
    intro hs hf0 hff hov hJ
    have hw := spot_way hs
    have hp := step_pos h hs hrm
    have hle := step_le (N := N) (far := far) (f := f) (q := q) (a := a) (wy := wy)
    have hrs := room_spot hs
    generalize ht : stepP N far f q a wy = t at *
    have hs' := spot_go hs (by omega) hle.1
    have hroom := room_on (N := N) (q := q) (a := a) (t := t) hw
    have hJ' : (f + t = 0 ∧ ¬ roomP N q (a + t * wy) wy = 0) ∨ (0 < f + t ∧ (roomP N q (a + t * wy) wy = 0 ∨ roomP N q (a + t * wy) (-wy) = 0)) ∨ f + t = far := by
      rw [hroom]
      unfold stepP at ht
      split at ht
      · exact .inr (.inr (by omega))
      · exact .inr (.inl ⟨by omega, .inl (by omega)⟩)
    obtain ⟨m, hm, hall⟩ := ih hs' (by omega) (by omega) hov hJ'
    refine ⟨m, hm, fun ps' y hy => ?_⟩
    have hsp := drive_spot hr hl n hs' (by omega)
    have hback : roomP N q (a + t * wy) (-wy) = roomP N q a (-wy) + t := by
      unfold roomP
      rcases hw with rfl | rfl
      · rw [if_neg (by omega), if_neg (by omega)]; omega
      · rw [if_pos (by omega), if_pos (by omega)]; omega
    have hrb := room_spot (spot_turn hs)
    have hst : stepP N r.far (r.far - (f + t)) q (a + t * wy) (-wy) = t := by
      unfold stepP
      rw [hback]
      rcases hJ with ⟨h1, _⟩ | ⟨h1, h2⟩ | h1
      · split <;> omega
      · rcases h2 with h2 | h2
        · exact absurd h2 hrm
        · rw [h2]; split <;> omega
      · omega
    have e1 : r.far - (f + t) + t = r.far - f := by omega
    have e2 : a + t * wy + t * -wy = a := by rcases hw with rfl | rfl <;> omega
    obtain ⟨y', hy1, hy2⟩ := drive_parts hy (ps' ++ [partP q (a + t * wy) a])
    obtain ⟨ps2, y2, h1, h2⟩ := hall ps' y' (.go (by omega) (by rw [hback]; omega) (by rw [hst, e1, e2]; exact hy1))
    exact ⟨ps2, y2, h1, h2.trans hy2⟩

/-- P4: to drive, turn and drive as far is to come back. -/
theorem drive_home {N : Nt} {xs : List Int} {far : Int} (hr : netOk N = (0, 0)) (hl : liesP N.jts xs = true) (h0 : 0 ≤ far) {q a wy : Int} {x y : DRes} (hs : spotP N q a wy = true) (hrm : ¬ roomP N q a wy = 0)
    (hx : DriveR N xs far 0 q a wy 0 [] x) (hy : DriveR N xs x.far 0 x.q x.at' (-x.way) 0 [] y) : y.code = 0 ∧ y.far = x.far ∧ y.q = q ∧ y.at' = a ∧ y.way = -wy := by
  obtain ⟨m, hm, hall⟩ := drive_rev hr hl hx hs (Int.le_refl _) h0 (by omega) (.inl ⟨rfl, hrm⟩)
  have hd : DriveR N xs x.far (x.far - 0) q a (-wy) m [] ⟨0, x.far - 0, -1, q, a, -wy, []⟩ := .done (by omega)
  obtain ⟨ps2, y2, h1, h2⟩ := hall _ _ hd
  obtain ⟨y3, h3, h4⟩ := drive_parts h1 []
  have := drive_one hr hy h3
  subst this
  have h5 := h4.trans h2
  exact ⟨h5.code, by have := h5.far; dsimp only at this; omega, h5.q, h5.at', h5.way⟩
end Go.Proofs.Yteapmddadieohaa
