/- A piece laid the other way round: plain. Own work. -/
import Derived.Test.YteapmddadieohaaDvB
namespace Go.Proofs.Yteapmddadieohaa

def flipE (k : Int) (e : Int × Int) : Int × Int := if e.1 = k then (e.1, 1 - e.2) else e
def flipJ (k : Int) (j : Jt) : Jt := ⟨j.kind, j.name, j.ends.map (flipE k)⟩
def flipN (k : Int) (N : Nt) : Nt := ⟨N.pcs, N.jts.map (flipJ k)⟩
def flipS (N : Nt) (k : Int) (s : Int × Int × Int) : Int × Int × Int := if s.1 = k then (s.1, lenAt N s.1 - s.2.1, -s.2.2) else s

theorem flipE_flipE (k : Int) (e : Int × Int) : flipE k (flipE k e) = e := by
  unfold flipE
  by_cases h : e.1 = k
  · rw [if_pos h, if_pos h]
    refine Prod.ext rfl ?_
    show 1 - (1 - e.2) = e.2
    omega
  · rw [if_neg h, if_neg h]
theorem flipE_inj {k : Int} {e f : Int × Int} (h : flipE k e = flipE k f) : e = f := by
  rw [← flipE_flipE k e, h, flipE_flipE]
theorem flipE_ok (k : Int) (n : Nat) (e : Int × Int) : endOk n (flipE k e) = endOk n e := by
  unfold flipE
  split
  · unfold endOk inR
    dsimp only
    congr 1
    rw [Bool.eq_iff_iff]
    simp only [Bool.and_eq_true, decide_eq_true_eq]
    omega
  · rfl
theorem count_flip (k : Int) (e : Int × Int) (es : List (Int × Int)) : (es.map (flipE k)).count (flipE k e) = es.count e := by
  induction es with
  | nil => rfl
  | cons x es ih =>
    rw [List.map_cons, List.count_cons, List.count_cons, ih]
    by_cases h : x = e
    · subst h; simp
    · have h' : ¬ flipE k x = flipE k e := fun hh => h (flipE_inj hh)
      rw [if_neg (by simpa using h'), if_neg (by simpa using h)]
theorem allEnds_flip (k : Int) (js : List Jt) : allEnds (js.map (flipJ k)) = (allEnds js).map (flipE k) := by
  induction js with
  | nil => rfl
  | cons j js ih =>
    show (flipJ k j).ends ++ allEnds (js.map (flipJ k)) = _
    rw [ih]
    show _ = (j.ends ++ allEnds js).map (flipE k)
    rw [List.map_append]
    rfl
theorem uses_flip (k : Int) (js : List Jt) (e : Int × Int) : uses (js.map (flipJ k)) (flipE k e) = uses js e := by
  unfold uses
  rw [allEnds_flip, count_flip]
theorem uses_flip' (k : Int) (js : List Jt) (e : Int × Int) : uses (js.map (flipJ k)) e = uses js (flipE k e) := by
  rw [← uses_flip k js (flipE k e), flipE_flipE]

theorem flip_len (k : Int) (N : Nt) : (flipN k N).jts.length = N.jts.length := by simp [flipN]
theorem flip_at {k : Int} {N : Nt} {j : Nat} (hj : j < N.jts.length) (hj' : j < (flipN k N).jts.length) : (flipN k N).jts[j] = flipJ k N.jts[j] := by
  simp [flipN]
theorem flip_lenAt (k : Int) (N : Nt) (q : Int) : lenAt (flipN k N) q = lenAt N q := rfl

theorem flip_right {N : Nt} (k : Int) (h : netOk N = (0, 0)) : netOk (flipN k N) = (0, 0) := by
  obtain ⟨h1, h2, h3, h4, h5⟩ := right_facts h
  refine netOk_0 ?_ h2 ?_ ?_ ?_
  · rw [← h1]
    unfold sizeBad
    rw [flip_len]
    rfl
  · intro j hj
    have hj0 : j < N.jts.length := by rw [← flip_len k N]; exact hj
    have h := h3 j hj0
    rw [jtBad3_eq hj0] at h
    show jtBad3 N.pcs.length (flipN k N).jts j = false
    rw [jtBad3_eq hj, flip_at hj0 hj]
    rw [← h]
    unfold flipJ
    dsimp only
    rw [List.length_map, List.any_map]
    congr 1
    congr 1
    funext e
    simp [flipE_ok]
  · intro j hj
    have hj0 : j < N.jts.length := by rw [← flip_len k N]; exact hj
    have h := h4 j hj0
    rw [jtBad4_eq hj0] at h
    rw [jtBad4_eq hj, flip_at hj0 hj, ← h]
    have e : ((flipN k N).jts.take j).any (fun q => q.name.toList == N.jts[j].name.toList) = (N.jts.take j).any (fun q => q.name.toList == N.jts[j].name.toList) := by
      show ((N.jts.map (flipJ k)).take j).any _ = _
      rw [← List.map_take, List.any_map]
      rfl
    show (if N.jts[j].kind < 3 then _ else _) = _
    rw [show (flipJ k N.jts[j]).name = N.jts[j].name from rfl, e]
  · intro j hj
    have hj0 : j < N.pcs.length := hj
    have hu0 : uses N.jts ((j : Int), 0) = 1 := by
      have := h5 j hj0
      simp [pcBad5] at this
      exact this.1
    have hu1 : uses N.jts ((j : Int), 1) = 1 := by
      have := h5 j hj0
      simp [pcBad5] at this
      exact this.2
    have hf : ∀ s, (s = 0 ∨ s = 1) → uses (flipN k N).jts ((j : Int), s) = 1 := by
      intro s hs
      show uses (N.jts.map (flipJ k)) _ = 1
      rw [uses_flip']
      unfold flipE
      split
      · dsimp only
        rcases hs with rfl | rfl
        · exact hu1
        · exact hu0
      · rcases hs with rfl | rfl
        · exact hu0
        · exact hu1
    exact pcBad5_false (hf 0 (.inl rfl)) (hf 1 (.inr rfl))

theorem flip_lies (k : Int) (N : Nt) (xs : List Int) : liesP (flipN k N).jts xs = liesP N.jts xs := by
  unfold liesP
  rw [flip_len]
  congr 1
  show ((N.jts.map (flipJ k)).zip xs).all _ = _
  generalize N.jts = js
  induction js generalizing xs with
  | nil => rfl
  | cons j js ih =>
    cases xs with
    | nil => rfl
    | cons x xs =>
      rw [List.map_cons, List.zip_cons_cons, List.zip_cons_cons, List.all_cons, List.all_cons, ih]
      rfl
theorem flip_spot {N : Nt} {k q a wy : Int} (h : spotP N q a wy = true) : spotP (flipN k N) (flipS N k (q, a, wy)).1 (flipS N k (q, a, wy)).2.1 (flipS N k (q, a, wy)).2.2 = true := by
  unfold flipS
  split
  · rename_i hq
    dsimp only at hq ⊢
    subst hq
    have hw := spot_way h
    simp only [spotP, inR, Bool.and_eq_true, Bool.or_eq_true, beq_iff_eq, decide_eq_true_eq, flip_lenAt] at h ⊢
    obtain ⟨⟨h1, h2⟩, h3, h4⟩ := h
    exact ⟨⟨h1, by rcases hw with rfl | rfl <;> simp⟩, by omega, decide_eq_true (show lenAt N q - a ≤ lenAt N q by omega)⟩
  · exact h

theorem flip_At {N : Nt} {k : Int} {e : Int × Int} {j i : Nat} (h : At N.jts e j i) : At (flipN k N).jts (flipE k e) j i := by
  obtain ⟨hj, hi, he⟩ := h
  have hj' : j < (flipN k N).jts.length := by rw [flip_len]; exact hj
  have hi' : i < (flipN k N).jts[j].ends.length := by rw [flip_at hj hj']; simpa [flipJ] using hi
  refine ⟨hj', hi', ?_⟩
  have : (flipN k N).jts[j].ends[i] = (flipJ k N.jts[j]).ends[i]'(by simpa [flipJ] using hi) := by
    simp only [flip_at hj hj']
  rw [this]
  simp [flipJ, he]

theorem flip_getD (k : Int) (es : List (Int × Int)) (m : Nat) (h : m < es.length) : ((es.map (flipE k))[m]?).getD (0, 0) = flipE k ((es[m]?).getD (0, 0)) := by
  rw [List.getElem?_map, List.getElem?_eq_getElem h]; rfl
theorem flip_acr (k : Int) (j : Jt) (i : Nat) : acr (flipJ k j) i = (acr j i).map (flipE k) := by
  unfold acr flipJ
  dsimp only
  have hm : ∀ m : Nat, ((j.ends.map (flipE k))[m]?).toList = ((j.ends[m]?).toList).map (flipE k) := by
    intro m
    rw [List.getElem?_map]
    cases j.ends[m]? <;> rfl
  repeat' split
  all_goals simp only [hm, List.map_append, List.map_nil]
theorem flip_over {N : Nt} {xs : List Int} (hr : netOk N = (0, 0)) (hl : liesP N.jts xs = true) (k : Int) {e : Int × Int} {j i : Nat} (hj : j < N.jts.length) (hx : j < xs.length) (hat : At N.jts e j i) :
    overP (flipJ k N.jts[j]) (flipE k e) i xs[j] = (flipE k (overP N.jts[j] e i xs[j]).1, (overP N.jts[j] e i xs[j]).2) := by
  have hB3 : jb3 N.pcs.length N.jts[j] = false := by rw [← jtBad3_jb3 hj]; exact (right_facts hr).2.2.1 j hj
  obtain ⟨⟨hk1, hk4⟩, hkl⟩ := jb3_len hB3
  obtain ⟨_, hil, he⟩ := hat
  have hlie := lieOk_of hl hj hx
  have hx02 : 0 ≤ xs[j] ∧ xs[j] ≤ 2 := by simp only [lieOk, inR, Bool.and_eq_true, decide_eq_true_eq] at hlie; omega
  generalize xs[j] = x at *
  have ek : (flipJ k N.jts[j]).kind = N.jts[j].kind := rfl
  unfold overP
  rw [ek]
  by_cases k1 : N.jts[j].kind = 1
  · rw [if_pos k1, if_pos k1]
  rw [if_neg k1, if_neg k1]
  by_cases k2 : N.jts[j].kind = 3 ∧ x = 0
  · rw [if_pos k2, if_pos k2]
  rw [if_neg k2, if_neg k2]
  by_cases k3 : N.jts[j].kind = 3 ∧ i = 0
  · rw [if_pos k3, if_pos k3]
    dsimp only
    rw [show (flipJ k N.jts[j]).ends = N.jts[j].ends.map (flipE k) from rfl, flip_getD k _ _ (by omega)]
  rw [if_neg k3, if_neg k3]
  by_cases k4 : N.jts[j].kind = 3 ∧ (i : Int) ≠ x
  · rw [if_pos k4, if_pos k4]
  rw [if_neg k4, if_neg k4]
  have hpos : 0 < (acr N.jts[j] i).length := by
    unfold acr
    by_cases q2 : N.jts[j].kind = 2
    · have : 1 - i < N.jts[j].ends.length := by omega
      simp [q2, this]
    · by_cases q3 : N.jts[j].kind = 3
      · have h0 : i ≠ 0 := fun e => k3 ⟨q3, e⟩
        have : 0 < N.jts[j].ends.length := by omega
        simp [q3, h0, this]
      · have q4 : N.jts[j].kind = 4 := by omega
        have : (if i = 0 then 1 else if i = 1 then 0 else if i = 2 then 3 else 2) < N.jts[j].ends.length := by split; omega; split; omega; split <;> omega
        simp [q4, this]
  rw [flip_acr, flip_getD k _ _ hpos]

theorem flip_head {N : Nt} {k q a wy : Int} (hw : wy = 1 ∨ wy = -1) : headP (flipS N k (q, a, wy)).1 (flipS N k (q, a, wy)).2.2 = flipE k (headP q wy) := by
  unfold flipS headP flipE
  dsimp only
  by_cases hq : q = k
  · rcases hw with rfl | rfl <;> simp [hq]
  · rcases hw with rfl | rfl <;> simp [hq]
theorem flip_room {N : Nt} {k q a wy : Int} (hw : wy = 1 ∨ wy = -1) : roomP (flipN k N) (flipS N k (q, a, wy)).1 (flipS N k (q, a, wy)).2.1 (flipS N k (q, a, wy)).2.2 = roomP N q a wy := by
  unfold flipS roomP
  simp only [flip_lenAt]
  by_cases hq : q = k
  · rcases hw with rfl | rfl
    · simp [hq]
    · simp [hq]; omega
  · simp [hq]
theorem flip_enter {N : Nt} {k : Int} {e : Int × Int} (he : endOk N.pcs.length e = true) : enterP (flipN k N) (flipE k e) = flipS N k (enterP N e) := by
  obtain ⟨p, s⟩ := e
  have hs : s = 0 ∨ s = 1 := by
    simp only [endOk, inR, Bool.and_eq_true, decide_eq_true_eq] at he
    omega
  unfold enterP flipE flipS
  simp only [flip_lenAt]
  by_cases hp : p = k
  · rcases hs with rfl | rfl <;> simp [hp]
  · rcases hs with rfl | rfl <;> simp [hp]
theorem flip_go {N : Nt} {k q a wy t : Int} (hw : wy = 1 ∨ wy = -1) : flipS N k (q, a + t * wy, wy) = ((flipS N k (q, a, wy)).1, (flipS N k (q, a, wy)).2.1 + t * (flipS N k (q, a, wy)).2.2, (flipS N k (q, a, wy)).2.2) := by
  unfold flipS
  by_cases hq : q = k
  · simp only [hq, if_pos]
    refine Prod.ext rfl (Prod.ext ?_ rfl)
    show lenAt N k - (a + t * wy) = lenAt N k - a + t * -wy
    rcases hw with rfl | rfl <;> omega
  · simp only [hq, if_neg, not_false_eq_true]

/-- P10: with a piece laid the other way round drives are the same. -/
theorem drive_flip {N : Nt} {xs : List Int} {far : Int} (k : Int) (hr : netOk N = (0, 0)) (hl : liesP N.jts xs = true) {f q a wy : Int} {ov : Nat} {ps : List (Int × Int × Int)} {r : DRes}
    (h : DriveR N xs far f q a wy ov ps r) : spotP N q a wy = true → f ≤ far → ∀ ps', ∃ r', DriveR (flipN k N) xs far f (flipS N k (q, a, wy)).1 (flipS N k (q, a, wy)).2.1 (flipS N k (q, a, wy)).2.2 ov ps' r' ∧ r'.code = r.code ∧ r'.far = r.far ∧ r'.joint = r.joint ∧ (r'.q, r'.at', r'.way) = flipS N k (r.q, r.at', r.way) := by
  induction h with
  | done h => exact fun hs hf ps' => ⟨_, .done h, rfl, rfl, rfl, rfl⟩
  | @stop f q a wy ov ps j i hj hx h hrm hat hc =>
    intro hs hf ps'
    have hw := spot_way hs
    have hj' : j < (flipN k N).jts.length := by rw [flip_len]; exact hj
    have hov := flip_over hr hl k hj hx hat
    have hh := flip_head (N := N) (k := k) (q := q) (a := a) hw
    have e := flip_at (k := k) hj hj'
    have hc' : (overP (flipN k N).jts[j] (headP (flipS N k (q, a, wy)).1 (flipS N k (q, a, wy)).2.2) i xs[j]).2 = (overP N.jts[j] (headP q wy) i xs[j]).2 := by rw [e, hh, hov]
    refine ⟨_, .stop hj' hx h (by rw [flip_room hw]; exact hrm) (by rw [hh]; exact flip_At hat) (by rw [hc']; exact hc), hc', rfl, rfl, rfl⟩
  | @many f q a wy ov ps j i hj hx h hrm hat hc ho =>
    intro hs hf ps'
    have hw := spot_way hs
    have hj' : j < (flipN k N).jts.length := by rw [flip_len]; exact hj
    have hov := flip_over hr hl k hj hx hat
    have hh := flip_head (N := N) (k := k) (q := q) (a := a) hw
    have e := flip_at (k := k) hj hj'
    have hc' : (overP (flipN k N).jts[j] (headP (flipS N k (q, a, wy)).1 (flipS N k (q, a, wy)).2.2) i xs[j]).2 = (overP N.jts[j] (headP q wy) i xs[j]).2 := by rw [e, hh, hov]
    refine ⟨_, .many hj' hx h (by rw [flip_room hw]; exact hrm) (by rw [hh]; exact flip_At hat) (by rw [hc']; exact hc) ho, rfl, rfl, rfl, rfl⟩
  | @over f q a wy ov ps j i r hj hx h hrm hat hc ho n ih =>
    intro hs hf ps'
    have hw := spot_way hs
    have hj' : j < (flipN k N).jts.length := by rw [flip_len]; exact hj
    have hov := flip_over hr hl k hj hx hat
    have hh := flip_head (N := N) (k := k) (q := q) (a := a) hw
    have e := flip_at (k := k) hj hj'
    have hok := overP_ok hr hl hj hx hat hc
    have hc' : overP (flipN k N).jts[j] (headP (flipS N k (q, a, wy)).1 (flipS N k (q, a, wy)).2.2) i xs[j] = (flipE k (overP N.jts[j] (headP q wy) i xs[j]).1, (overP N.jts[j] (headP q wy) i xs[j]).2) := by rw [e, hh, hov]
    obtain ⟨r', h1, h2⟩ := ih (enterP_ok hr hok) hf ps'
    refine ⟨r', .over hj' hx h (by rw [flip_room hw]; exact hrm) (by rw [hh]; exact flip_At hat) (by rw [hc']; exact hc) ho ?_, h2⟩
    rw [hc']
    dsimp only
    rw [flip_enter hok]
    exact h1
  | @go f q a wy ov ps r h hrm n ih =>
    intro hs hf ps'
    have hw := spot_way hs
    have hp := step_pos h hs hrm
    have hle := step_le (N := N) (far := far) (f := f) (q := q) (a := a) (wy := wy)
    have est : stepP (flipN k N) far f (flipS N k (q, a, wy)).1 (flipS N k (q, a, wy)).2.1 (flipS N k (q, a, wy)).2.2 = stepP N far f q a wy := by
      unfold stepP; rw [flip_room hw]
    obtain ⟨r', h1, h2⟩ := ih (spot_go hs (by omega) hle.1) (by omega) (ps' ++ [partP (flipS N k (q, a, wy)).1 (flipS N k (q, a, wy)).2.1 ((flipS N k (q, a, wy)).2.1 + stepP N far f q a wy * (flipS N k (q, a, wy)).2.2)])
    refine ⟨r', .go h (by rw [flip_room hw]; exact hrm) ?_, h2⟩
    rw [est]
    rw [flip_go hw] at h1
    exact h1
end Go.Proofs.Yteapmddadieohaa
