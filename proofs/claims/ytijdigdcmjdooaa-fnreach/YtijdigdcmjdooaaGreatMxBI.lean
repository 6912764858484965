/- What Shortest answers, no drive is sooner, there and back: plain. Own work. -/
import Derived.Test.YtijdigdcmjdooaaGreatMxBH
import Derived.Test.YtijdigdcmjdooaaGreatMxBC
import Derived.Test.YtijdigdcmjdooaaGreatMxAG
namespace Go.Proofs.YtijdigdcmjdooaaGreat
set_option maxHeartbeats 1000000

/-- The best way from a spot to another one. -/
noncomputable def shortP (N : Nt) (hr : netOk N = (0, 0)) (q a wy q' a' wy' : Int) : Option Wy :=
  if (q, wy) = (q', wy') ∧ 0 ≤ (a' - a) * wy then some ⟨(a' - a) * wy, [(q, wy)]⟩
  else (bestO (grN N hr) (q, wy) (roomP N q a wy) (q', wy')).map fun y => ⟨y.far + (lenAt N q' - roomP N q' a' wy'), y.ss⟩
theorem room_bd {N : Nt} {q a wy : Int} (h : spotP N q a wy = true) : 0 ≤ roomP N q a wy ∧ roomP N q a wy ≤ lenAt N q := by
  simp only [spotP, inR, Bool.and_eq_true, decide_eq_true_eq] at h
  unfold roomP
  split <;> omega
theorem room_diff {N : Nt} {q a a' wy : Int} (h : wy = 1 ∨ wy = -1) : roomP N q a wy - roomP N q a' wy = (a' - a) * wy := by
  unfold roomP
  rcases h with rfl | rfl
  · simp; omega
  · simp; omega
theorem room_flip {N : Nt} {q a wy : Int} (h : wy = 1 ∨ wy = -1) : roomP N q a (-wy) = lenAt N q - roomP N q a wy := by
  unfold roomP
  rcases h with rfl | rfl
  · rw [if_neg (by omega), if_pos rfl]; omega
  · rw [if_pos (by omega), if_neg (by omega)]
theorem spot_step {N : Nt} {q a wy : Int} (h : spotP N q a wy = true) : stepOk N.pcs.length (q, wy) = true := by
  simp only [spotP, inR, Bool.and_eq_true, decide_eq_true_eq, Bool.or_eq_true, beq_iff_eq] at h
  simp only [stepOk, inR, Bool.and_eq_true, decide_eq_true_eq, Bool.or_eq_true, beq_iff_eq]
  omega
theorem spot_flip {N : Nt} {q a wy : Int} (h : spotP N q a wy = true) : spotP N q a (-wy) = true := by
  simp only [spotP, inR, Bool.and_eq_true, decide_eq_true_eq, Bool.or_eq_true, beq_iff_eq] at h ⊢
  omega
theorem short_le {N : Nt} {hr : netOk N = (0, 0)} {q a wy q' a' wy' f : Int} (hs : spotP N q a wy = true) (hs' : spotP N q' a' wy' = true) (hf : 0 ≤ f) (h : OnW N hr (q, wy) (roomP N q a wy) f q' a' wy') : ∃ y, shortP N hr q a wy q' a' wy' = some y ∧ y.far ≤ f := by
  have hw := spot_way hs
  have hb := room_bd hs
  have hb' := room_bd hs'
  unfold shortP
  rcases h with ⟨h1, h2⟩ | ⟨y, h1, h2⟩
  · obtain ⟨rfl, rfl⟩ := Prod.mk.inj h1
    have hd := room_diff (N := N) (q := q') (a := a) (a' := a') hw
    rw [if_pos ⟨rfl, by omega⟩]
    exact ⟨_, rfl, by dsimp only; omega⟩
  · by_cases hc : (q, wy) = (q', wy') ∧ 0 ≤ (a' - a) * wy
    · rw [if_pos hc]
      refine ⟨_, rfl, ?_⟩
      obtain ⟨rfl, rfl⟩ := Prod.mk.inj hc.1
      have hd := room_diff (N := N) (q := q) (a := a) (a' := a') hw
      have hl := h1.way.room_le hb.1 h1.two
      dsimp only
      omega
    · rw [if_neg hc]
      cases hbo : bestO (grN N hr) (q, wy) (roomP N q a wy) (q', wy') with
      | none => exact absurd h1 (bestO_none' hb.1 hbo y)
      | some b =>
        have hl := le_far (bestO_le hbo h1)
        exact ⟨_, rfl, by dsimp only; omega⟩
/-- No drive is sooner. -/
theorem drive_short {N : Nt} {xs : List Int} {q a wy far : Int} {t : DRes} (hr : netOk N = (0, 0)) (h : DriveA N xs q a wy far t) (h0 : t.code = 0) : ∃ y, shortP N hr q a wy t.q t.at' t.way = some y ∧ y.far ≤ far := by
  unfold DriveA at h
  split at h
  · rename_i hg
    obtain ⟨_, hl, hs, hf, _⟩ := good_all hg
    obtain ⟨r, hR, rfl⟩ := h
    dsimp only at h0 ⊢
    have hon : OnW N hr (q, wy) (roomP N q a wy) 0 q a wy := .inl ⟨rfl, by omega⟩
    obtain ⟨h1, h2⟩ := drive_onW hr hl hR hs hon h0
    rw [drive_far hR hf h0] at h1
    exact short_le hs h2 hf h1
  · subst h
    cases h0
theorem flip_flip (s : Int × Int) : flipS (flipS s) = s := by simp [flipS]
theorem best_same {N : Nt} (hr : netOk N = (0, 0)) {s t : Int × Int} {room room' : Int} (h0 : 0 ≤ room) (h0' : 0 ≤ room') (hs : stepOk N.pcs.length s = true) (ht : stepOk N.pcs.length t = true) : (bestO (grN N hr) (flipS t) room' (flipS s)).map (fun y => y.far - room') = (bestO (grN N hr) s room t).map (fun y => y.far - room) := by
  have hfl : ∀ {u : Int × Int}, stepOk N.pcs.length u = true → stepOk N.pcs.length (flipS u) = true := fun {u} hu => by
    show stepOk N.pcs.length (u.1, -u.2) = true
    simp only [stepOk, inR, Bool.and_eq_true, decide_eq_true_eq, Bool.or_eq_true, beq_iff_eq] at hu ⊢
    omega
  cases h1 : bestO (grN N hr) s room t with
  | some y =>
    obtain ⟨y', h2, h3⟩ := best_back hr (room' := room') h0' hs h1
    rw [h2]
    obtain ⟨y2, h4, h5⟩ := best_back hr (room' := room) h0 (hfl ht) h2
    rw [flip_flip, flip_flip, h1] at h4
    obtain rfl := Option.some.inj h4
    simp only [Option.map_some, Option.some.injEq]
    omega
  | none =>
    cases h2 : bestO (grN N hr) (flipS t) room' (flipS s) with
    | none => rfl
    | some y' =>
      obtain ⟨y2, h4, _⟩ := best_back hr (room' := room) h0 (hfl ht) h2
      rw [flip_flip, flip_flip, h1] at h4
      cases h4
/-- There and back are as long. -/
theorem short_turn {N : Nt} (hr : netOk N = (0, 0)) {q a wy q' a' wy' : Int} (hs : spotP N q a wy = true) (hs' : spotP N q' a' wy' = true) : (shortP N hr q' a' (-wy') q a (-wy)).map Wy.far = (shortP N hr q a wy q' a' wy').map Wy.far := by
  have hw := spot_way hs
  have hw' := spot_way hs'
  have hb := room_bd hs
  have hb' := room_bd hs'
  have hbf := room_bd (spot_flip hs')
  unfold shortP
  by_cases hc : (q, wy) = (q', wy') ∧ 0 ≤ (a' - a) * wy
  · obtain ⟨rfl, rfl⟩ := Prod.mk.inj hc.1
    have e1 : (a - a') * -wy = (a' - a) * wy := by rcases hw with rfl | rfl <;> omega
    rw [if_pos hc, if_pos ⟨rfl, by rw [e1]; exact hc.2⟩]
    simp only [Option.map_some, e1]
  · have hc' : ¬ ((q', -wy') = (q, -wy) ∧ 0 ≤ (a - a') * -wy') := by
      rintro ⟨h1, h2⟩
      obtain ⟨rfl, h3⟩ := Prod.mk.inj h1
      have : wy' = wy := by omega
      subst this
      refine hc ⟨rfl, ?_⟩
      rcases hw with rfl | rfl <;> omega
    rw [if_neg hc, if_neg hc']
    have hsm := best_same hr (s := (q, wy)) (t := (q', wy')) (room := roomP N q a wy) (room' := roomP N q' a' (-wy')) hb.1 hbf.1 (spot_step hs) (spot_step hs')
    have e1 := room_flip (N := N) (q := q') (a := a') hw'
    have e2 := room_flip (N := N) (q := q) (a := a) hw
    simp only [flipS] at hsm
    generalize bestO (grN N hr) (q', -wy') (roomP N q' a' (-wy')) (q, -wy) = B' at *
    generalize bestO (grN N hr) (q, wy) (roomP N q a wy) (q', wy') = B at *
    cases B with
    | none =>
      cases B' with
      | none => rfl
      | some y' => cases hsm
    | some y =>
      cases B' with
      | none => cases hsm
      | some y' =>
        simp only [Option.map_some, Option.some.injEq] at hsm ⊢
        rw [e2]
        omega
end Go.Proofs.YtijdigdcmjdooaaGreat

/- Reach against drives and shortest paths: plain. Own work. -/
namespace Go.Proofs.YtijdigdcmjdooaaGreat
set_option maxHeartbeats 1000000

/-! ### What is seen in a round is told, or goes on -/
theorem step_keep (N : Nt) (st : List (Int × Int × Int) × List Dv) (x : Dv) : (∀ s ∈ st.1, s ∈ (stepR N st x).1) ∧ (∀ y ∈ st.2, y ∈ (stepR N st x).2) := by
  unfold stepR
  split
  · exact ⟨fun s hs => mem_addO.2 (.inl hs), fun y hy => hy⟩
  · exact ⟨fun s hs => hs, fun y hy => mem_addO.2 (.inl hy)⟩
theorem run_keep (N : Nt) : ∀ (xs : List Dv) (st : List (Int × Int × Int) × List Dv), (∀ s ∈ st.1, s ∈ (runR N st xs).1) ∧ (∀ y ∈ st.2, y ∈ (runR N st xs).2)
  | [], _ => ⟨fun _ h => h, fun _ h => h⟩
  | x :: xs, st => by
    have h1 := step_keep N st x
    have h2 := run_keep N xs (stepR N st x)
    exact ⟨fun s hs => h2.1 s (h1.1 s hs), fun y hy => h2.2 y (h1.2 y hy)⟩
theorem run_seen (N : Nt) : ∀ (xs : List Dv) (st : List (Int × Int × Int) × List Dv) (x : Dv), x ∈ xs → (endsR N x = true → toldR x ∈ (runR N st xs).1) ∧ (endsR N x = false → x ∈ (runR N st xs).2)
  | [], _, _, h => by simp at h
  | y :: xs, st, x, h => by
    rcases List.mem_cons.1 h with rfl | h
    · have h2 := run_keep N xs (stepR N st x)
      refine ⟨fun he => h2.1 _ ?_, fun he => h2.2 _ ?_⟩
      · rw [step_end he]
        exact mem_addO.2 (.inr rfl)
      · rw [step_go he]
        exact mem_addO.2 (.inr rfl)
    · exact run_seen N xs (stepR N st y) x h
/-- What stands told, stays told. -/
theorem goR_keep {N : Nt} : ∀ (k : Nat) (out : List (Int × Int × Int)) (line : List Dv) (res : List (Int × Int × Int)), goR N k out line = some res → ∀ s ∈ out, s ∈ res
  | k, out, [], res, h => by
    rw [goR_nil] at h
    obtain rfl := Option.some.inj h
    exact fun _ h => h
  | 0, out, c :: line, res, h => by cases h
  | k + 1, out, c :: line, res, h => by
    rw [goR] at h
    split at h
    · cases h
    · exact fun s hs => goR_keep k _ _ res h s ((run_keep N _ (out, [])).1 s hs)
/-! ### A drive ends where it is told -/
theorem room_nat {N : Nt} {s : Int × Int × Int} (h : spotS N s = true) : 0 ≤ roomS N s := by
  have hs := spot_facts h
  unfold roomS roomP
  split <;> omega
/-- A drive that comes no further than its piece. -/
theorem drive_in {N : Nt} {xs : List Int} {far f q a wy : Int} {ov : Nat} {ps : List (Int × Int × Int)} {r : DRes} (h : DriveR N xs far f q a wy ov ps r) (hf : f ≤ far) (he : far - f ≤ roomP N q a wy) : (r.q, r.at', r.way) = toldR ((q, a, wy), far - f) := by
  unfold toldR
  dsimp only
  cases h with
  | done h =>
    have e : far - f = 0 := by omega
    rw [e]
    simp
  | stop _ _ h1 h2 => omega
  | many _ _ h1 h2 => omega
  | over _ _ h1 h2 => omega
  | go h1 h2 n =>
    have e : stepP N far f q a wy = far - f := by
      unfold stepP
      split <;> omega
    rw [e] at n
    cases n with
    | done => rfl
    | stop _ _ h1 => omega
    | many _ _ h1 => omega
    | over _ _ h1 => omega
    | go h1 => omega
/-- A drive that stands at its piece's end goes over its joint. -/
theorem drive_cross {N : Nt} {xs : List Int} (hr : netOk N = (0, 0)) (hl : liesP N.jts xs = true) {far f q a wy : Int} {ov : Nat} {ps : List (Int × Int × Int)} {r : DRes} (h : DriveR N xs far f q a wy ov ps r) (hf : f < far) (h0 : roomP N q a wy = 0) (hc : r.code = 0) : ∃ e ov' ps', e ∈ nxP N (headP q wy) ∧ DriveR N xs far f (enterP N e).1 (enterP N e).2.1 (enterP N e).2.2 ov' ps' r := by
  cases h with
  | done h1 => omega
  | stop _ _ _ _ _ h1 => exact absurd hc h1
  | many => cases hc
  | over hj hx _ _ hat h1 _ n => exact ⟨_, _, _, over_mem hr hl hj hx hat h1, n⟩
  | go _ h1 => exact absurd h0 h1
/-- A drive that goes on behind its piece comes to a son. -/
theorem drive_son {N : Nt} {xs : List Int} (hr : netOk N = (0, 0)) (hl : liesP N.jts xs = true) {far f q a wy : Int} {ov : Nat} {ps : List (Int × Int × Int)} {r : DRes} (hs : spotP N q a wy = true) (h : DriveR N xs far f q a wy ov ps r) (he : roomP N q a wy < far - f) (hc : r.code = 0) : ∃ e ov' ps', e ∈ nxP N (headP q wy) ∧ DriveR N xs far (f + roomP N q a wy) (enterP N e).1 (enterP N e).2.1 (enterP N e).2.2 ov' ps' r := by
  have hroom := room_bd hs
  by_cases h0 : roomP N q a wy = 0
  · obtain ⟨e, ov', ps', h1, h2⟩ := drive_cross hr hl h (by omega) h0 hc
    exact ⟨e, ov', ps', h1, by rw [h0, Int.add_zero]; exact h2⟩
  · cases h with
    | done h1 => omega
    | stop _ _ _ h1 => exact absurd h1 h0
    | many _ _ _ h1 => exact absurd h1 h0
    | over _ _ _ h1 => exact absurd h1 h0
    | go h1 h2 n =>
      have e : stepP N far f q a wy = roomP N q a wy := by
        unfold stepP
        split <;> omega
      rw [e] at n
      have hz : roomP N q (a + roomP N q a wy * wy) wy = 0 := by rw [room_go hs]; omega
      exact drive_cross hr hl n (by omega) hz hc
theorem goR_drive {N : Nt} (hr : netOk N = (0, 0)) {xs : List Int} (hl : liesP N.jts xs = true) {far : Int} {r : DRes} (hc : r.code = 0) : ∀ (k : Nat) (out : List (Int × Int × Int)) (line : List Dv) (res : List (Int × Int × Int)), GoI N far out line → goR N k out line = some res → ∀ q a wy lf ov ps, ((q, a, wy), lf) ∈ line → DriveR N xs far (far - lf) q a wy ov ps r → (r.q, r.at', r.way) ∈ res
  | k, out, [], res, _, h => fun q a wy lf ov ps hm => by simp at hm
  | 0, out, c :: line, res, _, h => by cases h
  | k + 1, out, c :: line, res, hG, h => by
    intro q a wy lf ov ps hm hd
    rw [goR] at h
    split at h
    · cases h
    · have hx := hG.line _ hm
      have hs : spotP N q a wy = true := hx.1.spot
      have hlf := hx.1.left
      have hend : ¬ lf ≤ roomP N q a wy := of_decide_eq_false hx.2
      dsimp only at hlf
      have hroom := room_bd hs
      obtain ⟨e, ov', ps', he, hd'⟩ := drive_son hr hl hs hd (by omega) hc
      have hson : (enterP N e, lf - roomP N q a wy) ∈ candsR N (c :: line) := List.mem_flatMap.2 ⟨_, hm, List.mem_map.2 ⟨e, he, rfl⟩⟩
      have hsn := run_seen N _ (out, []) _ hson
      have hG' := (hG.round hr).1
      rw [show far - lf + roomP N q a wy = far - (lf - roomP N q a wy) by omega] at hd'
      cases hen : endsR N (enterP N e, lf - roomP N q a wy) with
      | true =>
        have h1 := hsn.1 hen
        have h2 : lf - roomP N q a wy ≤ roomP N (enterP N e).1 (enterP N e).2.1 (enterP N e).2.2 := of_decide_eq_true hen
        have h5 : 0 < lf - roomP N q a wy := by omega
        have h3 := drive_in hd' (by omega) (by omega)
        rw [show far - (far - (lf - roomP N q a wy)) = lf - roomP N q a wy by omega] at h3
        rw [h3]
        exact goR_keep k _ _ res h _ h1
      | false =>
        have h1 := hsn.2 hen
        exact goR_drive hr hl hc k _ _ res hG' h (enterP N e).1 (enterP N e).2.1 (enterP N e).2.2 (lf - roomP N q a wy) ov' ps' h1 hd'
theorem spotS_of {N : Nt} {q a wy : Int} (h : spotP N q a wy = true) : spotS N (q, a, wy) = true := h
/-- A drive's end is told, or there is too much to tell. -/
theorem reach_drive {N : Nt} {xs : List Int} {q a wy far : Int} {t : DRes} (h : DriveA N xs q a wy far t) (hc : t.code = 0) (hne : reachP N (q, a, wy) far ≠ []) : (t.q, t.at', t.way) ∈ reachP N (q, a, wy) far := by
  unfold DriveA at h
  split at h
  · rename_i hg
    obtain ⟨hr, hl, hs, hf0, hf1⟩ := good_all hg
    obtain ⟨r, hR, rfl⟩ := h
    dsimp only at hc ⊢
    have hroom := room_bd hs
    have hx : DvOk N far ((q, a, wy), far) := ⟨hs, by dsimp only; omega, Int.le_refl _⟩
    unfold reachP at hne ⊢
    split
    · rename_i hcond
      rw [if_pos hcond] at hne
      unfold reachR at hne ⊢
      cases hgo : goR N 1000 (stepR N ([], []) ((q, a, wy), far)).1 (stepR N ([], []) ((q, a, wy), far)).2 with
      | none =>
        rw [hgo] at hne
        exact absurd rfl hne
      | some res =>
        dsimp only
        rw [List.mem_mergeSort]
        cases hen : endsR N ((q, a, wy), far) with
        | true =>
          have h2 : far ≤ roomP N q a wy := of_decide_eq_true hen
          have h3 := drive_in hR hf0 (by omega)
          rw [show far - 0 = far by omega] at h3
          rw [h3]
          refine goR_keep _ _ _ res hgo _ ?_
          rw [step_end hen]
          dsimp only
          exact mem_addO.2 (.inr rfl)
        | false =>
          refine goR_drive hr hl hc _ _ _ res (GoI.first hx) hgo q a wy far 0 [] ?_ ?_
          · rw [step_go hen]
            dsimp only
            exact mem_addO.2 (.inr rfl)
          · rw [show far - far = 0 by omega]
            exact hR
    · rename_i hcond
      rw [if_neg hcond] at hne
      exact absurd rfl hne
  · subst h
    cases hc
/-! ### What is told is no nearer than the shortest path -/
structure OnI (N : Nt) (hr : netOk N = (0, 0)) (s : Int × Int) (room far : Int) (st : List (Int × Int × Int) × List Dv) : Prop where
  out : ∀ t ∈ st.1, OnW N hr s room far t.1 t.2.1 t.2.2 ∧ spotS N t = true
  line : ∀ x ∈ st.2, OnW N hr s room (far - x.2) x.1.1 x.1.2.1 x.1.2.2 ∧ DvOk N far x
theorem OnI.step {N : Nt} {hr : netOk N = (0, 0)} {s : Int × Int} {room far : Int} {st} (h : OnI N hr s room far st) {x : Dv} (hx : OnW N hr s room (far - x.2) x.1.1 x.1.2.1 x.1.2.2 ∧ DvOk N far x) : OnI N hr s room far (stepR N st x) := by
  cases he : endsR N x with
  | true =>
    rw [step_end he]
    refine ⟨fun t ht => ?_, h.line⟩
    rcases mem_addO.1 ht with ht | rfl
    · exact h.out t ht
    · refine ⟨?_, told_ok hx.2 he⟩
      have h1 := onW_go (t := x.2) hx.2.spot hx.1
      rw [show far - x.2 + x.2 = far by omega] at h1
      exact h1
  | false =>
    rw [step_go he]
    refine ⟨h.out, fun y hy => ?_⟩
    rcases mem_addO.1 hy with hy | rfl
    · exact h.line y hy
    · exact hx
theorem OnI.run {N : Nt} {hr : netOk N = (0, 0)} {s : Int × Int} {room far : Int} : ∀ (xs : List Dv) {st}, OnI N hr s room far st → (∀ x ∈ xs, OnW N hr s room (far - x.2) x.1.1 x.1.2.1 x.1.2.2 ∧ DvOk N far x) → OnI N hr s room far (runR N st xs)
  | [], _, h, _ => h
  | x :: xs, _, h, hx => OnI.run xs (h.step (hx x (List.mem_cons_self ..))) (fun y hy => hx y (List.mem_cons_of_mem _ hy))
theorem onI_goR {N : Nt} (hr : netOk N = (0, 0)) {s : Int × Int} {room far : Int} : ∀ (k : Nat) (out : List (Int × Int × Int)) (line : List Dv) (res : List (Int × Int × Int)), OnI N hr s room far (out, line) → GoI N far out line → goR N k out line = some res → ∀ t ∈ res, OnW N hr s room far t.1 t.2.1 t.2.2 ∧ spotS N t = true
  | k, out, [], res, h, _, hg => by
    rw [goR_nil] at hg
    obtain rfl := Option.some.inj hg
    exact h.out
  | 0, out, c :: line, res, h, _, hg => by cases hg
  | k + 1, out, c :: line, res, h, hG, hg => by
    rw [goR] at hg
    split at hg
    · cases hg
    · refine onI_goR hr k _ _ res ?_ (hG.round hr).1 hg
      have h0 : OnI N hr s room far (out, []) := ⟨h.out, by simp⟩
      refine h0.run (candsR N (c :: line)) (fun x hx => ⟨?_, (cands_ok hr hG.line x hx).1⟩)
      obtain ⟨y, hy, hx⟩ := List.mem_flatMap.1 hx
      obtain ⟨e, hm, rfl⟩ := List.mem_map.1 hx
      have hyl := h.line y hy
      have hsy : spotP N y.1.1 y.1.2.1 y.1.2.2 = true := hyl.2.spot
      have h1 := onW_go (t := roomP N y.1.1 y.1.2.1 y.1.2.2) hsy hyl.1
      have hz : roomP N y.1.1 (y.1.2.1 + roomP N y.1.1 y.1.2.1 y.1.2.2 * y.1.2.2) y.1.2.2 = 0 := by rw [room_go hsy]; omega
      have h2 := onW_over hz h1 hm
      rw [show far - y.2 + roomP N y.1.1 y.1.2.1 y.1.2.2 = far - (y.2 - roomP N y.1.1 y.1.2.1 y.1.2.2) by omega] at h2
      exact h2
/-- What is told has a path to it that is no longer. -/
theorem reach_short {N : Nt} (hr : netOk N = (0, 0)) {q a wy far : Int} {t : Int × Int × Int} (ht : t ∈ reachP N (q, a, wy) far) : spotP N t.1 t.2.1 t.2.2 = true ∧ ∃ y, shortP N hr q a wy t.1 t.2.1 t.2.2 = some y ∧ y.far ≤ far := by
  unfold reachP at ht
  split at ht
  · rename_i hcond
    rw [Bool.and_eq_true, Bool.and_eq_true] at hcond
    have hs : spotP N q a wy = true := hcond.1.2
    have hin := hcond.2
    simp only [inR, Bool.and_eq_true, decide_eq_true_eq] at hin
    have hx : DvOk N far ((q, a, wy), far) := ⟨hs, by dsimp only; omega, Int.le_refl _⟩
    unfold reachR at ht
    split at ht
    · simp at ht
    · rename_i res hgo
      rw [List.mem_mergeSort] at ht
      have h0 : OnI N hr (q, wy) (roomP N q a wy) far (([], []) : List (Int × Int × Int) × List Dv) := ⟨by simp, by simp⟩
      have h1 := h0.step (x := ((q, a, wy), far)) ⟨.inl ⟨rfl, by dsimp only; omega⟩, hx⟩
      obtain ⟨h2, h3⟩ := onI_goR hr _ _ _ res h1 (GoI.first hx) hgo t ht
      exact ⟨h3, short_le hs h3 (by omega) h2⟩
  · simp at ht
end Go.Proofs.YtijdigdcmjdooaaGreat

/- The map of the trails that are known. Own work. -/
namespace Go.Proofs.YtijdigdcmjdooaaGreat
open Go.RowKit Go.Maps Go.Joins

theorem rowSt : (132 : TypeId) < Tryz.prog.types.size := of_decide_eq_true (by kernel_rfl)
theorem wideSt : (match Tryz.prog.underlying 132 with | some (.array _ _) | some (.struct _) => true | _ => false) = true := by rw [Tryz.underlying132]
theorem deepSt : Tryz.prog.keyTypeAt (Tryz.prog.types.size + 1) 132 = true := by kernel_rfl
theorem cellsSt : Tryz.prog.cellsOf 132 = 2 := by kernel_rfl
set_option maxRecDepth 100000 in
theorem klawSt : WideMaps.KeyLaw Tryz.prog 132 := deep_law_laid Tryz.laidOut (m := 2) (by omega) rowSt (by kernel_rfl) wideSt
theorem lawSt : Keyed Tryz.prog 132 := Keyed.of_law klawSt
theorem formedSt {c0 c1 : Value} : (Value.agg #[c0, c1]).formed Tryz.prog 132 = true := by simp [Value.formed, Tryz.underlying132, cellsSt]

set_option maxRecDepth 100000 in
theorem keySt (w : World) (x y : Int) (hx : (Lit.int .i64 x).wf = true) (hy : (Lit.int .i64 y).wf = true) : ∃ kl, keyOf Tryz.prog 132 (.agg #[.int .i64 x, .int .i64 y]) = some kl := by
  have h : DataW.Trod (H := Unit) (fun _ => ()) Tryz.prog w 0 (fun _ => true) true 132 (.agg #[.int .i64 x, .int .i64 y]) (.agg [.lit (.int .i64 x), .lit (.int .i64 y)]) ([] ++ []) :=
    shut_agg2 (y0 := (.lit (.int .i64 x), [])) (y1 := (.lit (.int .i64 y), [])) Tryz.underlying132 (by kernel_rfl) cellsSt ⟨1, by simp [DataW.trod, Tryz.underlying3, hx]⟩ ⟨1, by simp [DataW.trod, Tryz.underlying3, hy]⟩
  exact ⟨_, (keyOf_asKey deepSt wideSt formedSt h).1⟩

/-- A trail as the map holds it: how far, the block of its steps (less than nought: none), how many, with how much room. -/
structure Tr where
  far : Int
  b : Int
  n : Nat
  c : Nat
def tr0 : Tr := ⟨0, -1, 0, 0⟩
def trA (t : Tr) : Option Addr := if t.b < 0 then none else some ⟨t.b.toNat, 0, none⟩
def trV (t : Tr) : Value := .agg #[.int .i64 t.far, .slice (trA t) t.n t.c]
def trD (t : Tr) : DataW Unit := .agg [.lit (.int .i64 t.far), .lit (.int .i64 (if t.b < 0 then -1 else t.b)), .lit (.int .i64 t.n), .lit (.int .i64 t.c)]
def trR (v : Value) : Option (DataW Unit × List MemPlace) :=
  match v with
  | .agg xs => match xs.toList with
    | [.int .i64 a, .slice z n c] => match z with
      | none => some (.agg [.lit (.int .i64 a), .lit (.int .i64 (-1)), .lit (.int .i64 n), .lit (.int .i64 c)], [])
      | some ⟨b, 0, none⟩ => some (.agg [.lit (.int .i64 a), .lit (.int .i64 (b : Int)), .lit (.int .i64 n), .lit (.int .i64 c)], [])
      | _ => none
    | _ => none
  | _ => none
theorem trR_mk (t : Tr) : trR (trV t) = some (trD t, []) := by
  unfold trV trD trR trA
  by_cases h : t.b < 0
  · simp [h]
  · have : ((t.b.toNat : Nat) : Int) = t.b := by omega
    simp [h, this]
theorem trR_inv {v : Value} {t : Tr} {ps} (h : trR v = some (trD t, ps)) : v = trV t := by
  unfold trR at h
  split at h
  · rename_i xs
    split at h
    · rename_i a z n c heq
      have hx : xs = #[.int .i64 a, .slice z n c] := by apply Array.toList_inj.1; rw [heq]
      split at h
      · simp [trD] at h
        obtain ⟨⟨h1, h2, h3, h4⟩, _⟩ := h
        have hb : t.b < 0 := by
          rcases Int.lt_or_le t.b 0 with h | h
          · exact h
          · have := h2 h; omega
        rw [hx]
        unfold trV trA
        rw [if_pos hb]
        have e1 : n = t.n := by omega
        have e2 : c = t.c := by omega
        rw [h1, e1, e2]
      · rename_i b
        simp [trD] at h
        obtain ⟨⟨h1, h2, h3, h4⟩, _⟩ := h
        have hb : ¬ t.b < 0 := by split at h2 <;> omega
        have hb2 : t.b.toNat = b := by rw [if_neg hb] at h2; omega
        rw [hx]
        unfold trV trA
        rw [if_neg hb, hb2]
        have e1 : n = t.n := by omega
        have e2 : c = t.c := by omega
        rw [h1, e1, e2]
      · cases h
    · cases h
  · cases h
theorem zeroTr (w : World) : (zeroValue 101).run Tryz.prog w = .ok (trV tr0) w := by kernel_rfl

/-- Block b is a map from steps to trails that holds g. -/
def KM (w : World) (b n : Nat) (g : Int × Int → Option Tr) : Prop :=
  ∃ D : DataW Unit, w.ownsMap Tryz.prog 132 trR b n D ∧ ∀ (e : Int × Int) (kl : Lit), keyOf Tryz.prog 132 (.agg #[.int .i64 e.1, .int .i64 e.2]) = some kl → D.atKey kl (trD tr0) = trD ((g e).getD tr0) ∧ Maps.has D kl = (g e).isSome

theorem KM.made (w : World) : KM (w.alloc (.map #[] 0)) w.heap.size 0 (fun _ => none) :=
  ⟨_, World.ownsMap_made w _ _ _, fun _ _ _ => ⟨rfl, rfl⟩⟩

theorem KM.of_block {w w' : World} {b n g} (h : KM w b n g) (e : w'.heap[b]? = w.heap[b]?) : KM w' b n g := by
  obtain ⟨D, ⟨es, clock, hb, h2⟩, h3⟩ := h
  exact ⟨D, ⟨es, clock, e.trans hb, h2⟩, h3⟩

theorem KM.lt {w : World} {b n g} (h : KM w b n g) : b < w.heap.size := by
  obtain ⟨D, h, _⟩ := h
  exact h.lt

theorem KM.look {w : World} {b n g} (h : KM w b n g) (x y : Int) (hw : Wf2 (x, y)) :
    (Instr.lookup 134 (.map (some b)) (.agg #[.int .i64 x, .int .i64 y]) false).run Tryz.prog w = .ok (trV ((g (x, y)).getD tr0)) w := by
  obtain ⟨D, hown, hD⟩ := h
  obtain ⟨kl, hkl⟩ := keySt w x y hw.1 hw.2
  obtain ⟨v, ps, hrun, hv⟩ := hown.lookup lawSt Tryz.underlying134 (zeroTr w) (trR_mk _) hkl
  rw [(hD (x, y) kl hkl).1] at hv
  rw [hrun, trR_inv hv]

theorem KM.look_ok {w : World} {b n g} (h : KM w b n g) (x y : Int) (hw : Wf2 (x, y)) :
    (Instr.lookup 134 (.map (some b)) (.agg #[.int .i64 x, .int .i64 y]) true).run Tryz.prog w = .ok (.tuple #[trV ((g (x, y)).getD tr0), .bool (g (x, y)).isSome]) w := by
  obtain ⟨D, hown, hD⟩ := h
  obtain ⟨kl, hkl⟩ := keySt w x y hw.1 hw.2
  obtain ⟨v, ps, hrun, hv⟩ := hown.look_ok lawSt Tryz.underlying134 (zeroTr w) (trR_mk _) hkl
  rw [(hD (x, y) kl hkl).1] at hv
  rw [hrun, trR_inv hv, (hD (x, y) kl hkl).2]

theorem KM.put {w : World} {b n g} (h : KM w b n g) (hn : n < maxLen) (x y : Int) (hw : Wf2 (x, y)) (t : Tr) :
    ∃ w', (Instr.mapUpdate 134 (.map (some b)) (.agg #[.int .i64 x, .int .i64 y]) (trV t)).run Tryz.prog w = .ok () w' ∧ KM w' b (n + 1) (fun e => if e = (x, y) then some t else g e) ∧ w.grownBy w' (some b) := by
  obtain ⟨D, hown, hD⟩ := h
  obtain ⟨kl, hkl⟩ := keySt w x y hw.1 hw.2
  obtain ⟨w', hrun, hown', hg⟩ := hown.update lawSt Tryz.underlying134 hn hkl (trR_mk t)
  refine ⟨w', hrun, ⟨_, hown', fun e kl' hkl' => ?_⟩, hg⟩
  by_cases he : e = (x, y)
  · subst he
    obtain rfl : kl = kl' := by rw [hkl] at hkl'; exact Option.some.inj hkl'
    rw [atKey_put_same hown.isMap (lawSt.key hkl), has_put_same hown.isMap (lawSt.key hkl)]
    simp
  · have hne : kl' ≠ kl := by
      intro hk
      subst hk
      have := lawSt.inj hkl' hkl
      simp at this
      exact he (Prod.ext this.1 this.2)
    rw [atKey_put_other hne, has_put_other hne]
    simp only [if_neg he]
    exact hD e kl' hkl'
end Go.Proofs.YtijdigdcmjdooaaGreat
