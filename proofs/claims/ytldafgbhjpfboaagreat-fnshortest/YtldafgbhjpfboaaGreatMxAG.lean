import Derived.Test.YtldafgbhjpfboaaGreatMxAF
import Derived.Test.YtldafgbhjpfboaaGreatMxAE
namespace Go.Proofs.YtldafgbhjpfboaaGreat
open Go.RowKit
set_option maxHeartbeats 1000000

theorem jb3_len {n : Nat} {j : Jt} (h : jb3 n j = false) : (1 ≤ j.kind ∧ j.kind ≤ 4) ∧ (j.ends.length : Int) = j.kind := by
  refine ⟨jb3_kind h, ?_⟩
  simp only [jb3, Bool.or_eq_false_iff] at h
  simpa using h.1.2

theorem l1across_any (n : Nat) (j : Jt) (a : Option Addr) (cap i : Nat) (w : World) (h3 : jb3 n j = false) (hi : i < j.ends.length) (h : EndsAt w a j.ends) :
    Calls Tryz.prog 50 #[.agg #[.int .i64 j.kind, .string j.name, .slice a j.ends.length cap], .int .i64 i] w fun e w' =>
    ∃ v, e = .returned v ∧ NewEnds w.heap.size w' v (acr j i) ∧ Below w.heap.size w w' := by
  obtain ⟨hk, hl⟩ := jb3_len h3
  clear h3
  obtain ⟨kind, name, ends⟩ := j
  simp only at hk hl hi h
  have hkk : kind = 1 ∨ kind = 2 ∨ kind = 3 ∨ kind = 4 := by omega
  rcases hkk with rfl | rfl | rfl | rfl
  · match ends, (show ends.length = 1 by omega) with
    | [e0], _ =>
      have hii : i = 0 := by simp at hi; omega
      subst hii
      exact l1across_1_0 name a cap e0 w h
  · match ends, (show ends.length = 2 by omega) with
    | [e0, e1], _ =>
      have hii : i = 0 ∨ i = 1 := by simp at hi; omega
      rcases hii with rfl | rfl
      · exact l1across_2_0 name a cap e0 e1 w h
      · exact l1across_2_1 name a cap e0 e1 w h
  · match ends, (show ends.length = 3 by omega) with
    | [e0, e1, e2], _ =>
      have hii : i = 0 ∨ i = 1 ∨ i = 2 := by simp at hi; omega
      rcases hii with rfl | rfl | rfl
      · exact l1across_3_0 name a cap e0 e1 e2 w h
      · exact l1across_3_1 name a cap e0 e1 e2 w h
      · exact l1across_3_2 name a cap e0 e1 e2 w h
  · match ends, (show ends.length = 4 by omega) with
    | [e0, e1, e2, e3], _ =>
      have hii : i = 0 ∨ i = 1 ∨ i = 2 ∨ i = 3 := by simp at hi; omega
      rcases hii with rfl | rfl | rfl | rfl
      · exact l1across_4_0 name a cap e0 e1 e2 e3 w h
      · exact l1across_4_1 name a cap e0 e1 e2 e3 w h
      · exact l1across_4_2 name a cap e0 e1 e2 e3 w h
      · exact l1across_4_3 name a cap e0 e1 e2 e3 w h
end Go.Proofs.YtldafgbhjpfboaaGreat

namespace Go.Proofs.YtldafgbhjpfboaaGreat
open Go.RowKit
set_option maxHeartbeats 2000000

/-- Over the joint j from the place i of it, with switches as xs: the end, the code. -/
def overP (j : Jt) (e : Int × Int) (i : Nat) (x : Int) : (Int × Int) × Int :=
  if j.kind = 1 then (e, 1)
  else if j.kind = 3 ∧ x = 0 then (e, 2)
  else if j.kind = 3 ∧ i = 0 then ((j.ends[x.toNat]?).getD (0, 0), 0)
  else if j.kind = 3 ∧ (i : Int) ≠ x then (e, 3)
  else (((acr j i)[0]?).getD (0, 0), 0)

end Go.Proofs.YtldafgbhjpfboaaGreat

/- Drives, as a relation; it gives one answer at most. Own work. -/
namespace Go.Proofs.YtldafgbhjpfboaaGreat

structure DRes where
  code : Int
  far : Int
  joint : Int
  q : Int
  at' : Int
  way : Int
  ps : List (Int × Int × Int)

def stepP (N : Nt) (far f q a wy : Int) : Int := if roomP N q a wy > far - f then far - f else roomP N q a wy
def partP (q a b : Int) : Int × Int × Int := if a > b then (q, b, a) else (q, a, b)

inductive DriveR (N : Nt) (xs : List Int) (far : Int) : Int → Int → Int → Int → Nat → List (Int × Int × Int) → DRes → Prop
  | done {f q a wy ov ps} (h : ¬ f < far) : DriveR N xs far f q a wy ov ps ⟨0, f, -1, q, a, wy, ps⟩
  | stop {f q a wy ov ps j i} (hj : j < N.jts.length) (hx : j < xs.length) (h : f < far) (hr : roomP N q a wy = 0) (hat : At N.jts (headP q wy) j i) (hc : ¬ (overP N.jts[j] (headP q wy) i xs[j]).2 = 0) : DriveR N xs far f q a wy ov ps ⟨(overP N.jts[j] (headP q wy) i xs[j]).2, f, j, q, a, wy, ps⟩
  | many {f q a wy ov ps j i} (hj : j < N.jts.length) (hx : j < xs.length) (h : f < far) (hr : roomP N q a wy = 0) (hat : At N.jts (headP q wy) j i) (hc : (overP N.jts[j] (headP q wy) i xs[j]).2 = 0) (ho : ov = 1000) : DriveR N xs far f q a wy ov ps ⟨5, f, j, q, a, wy, ps⟩
  | over {f q a wy ov ps j i r} (hj : j < N.jts.length) (hx : j < xs.length) (h : f < far) (hr : roomP N q a wy = 0) (hat : At N.jts (headP q wy) j i) (hc : (overP N.jts[j] (headP q wy) i xs[j]).2 = 0) (ho : ¬ ov = 1000)
      (n : DriveR N xs far f (enterP N (overP N.jts[j] (headP q wy) i xs[j]).1).1 (enterP N (overP N.jts[j] (headP q wy) i xs[j]).1).2.1 (enterP N (overP N.jts[j] (headP q wy) i xs[j]).1).2.2 (ov + 1) ps r) : DriveR N xs far f q a wy ov ps r
  | go {f q a wy ov ps r} (h : f < far) (hr : ¬ roomP N q a wy = 0)
      (n : DriveR N xs far (f + stepP N far f q a wy) q (a + stepP N far f q a wy * wy) wy ov (ps ++ [partP q a (a + stepP N far f q a wy * wy)]) r) : DriveR N xs far f q a wy ov ps r

theorem headP_ok {N : Nt} {q a wy : Int} (h : spotP N q a wy = true) : endOk N.pcs.length (headP q wy) = true := by
  simp only [spotP, Bool.and_eq_true, inR, decide_eq_true_eq] at h
  unfold headP endOk inR
  split
  · simp only [Bool.and_eq_true, decide_eq_true_eq]; omega
  · simp only [Bool.and_eq_true, decide_eq_true_eq]; omega

theorem at_one {N : Nt} (hr : netOk N = (0, 0)) {e : Int × Int} {j i j' i' : Nat} (h : At N.jts e j i) (h' : At N.jts e j' i') : j = j' ∧ i = i' :=
  h.unique h' (uses_right hr (endOk_of_at (right_facts hr).2.2.1 h))

theorem drive_one {N : Nt} {xs : List Int} {far : Int} (hr : netOk N = (0, 0)) {f q a wy : Int} {ov : Nat} {ps : List (Int × Int × Int)} {r r' : DRes}
    (h : DriveR N xs far f q a wy ov ps r) (h' : DriveR N xs far f q a wy ov ps r') : r = r' := by
  induction h with
  | done h =>
    cases h' with
    | done => rfl
    | stop _ _ h1 => exact absurd h1 h
    | many _ _ h1 => exact absurd h1 h
    | over _ _ h1 => exact absurd h1 h
    | go h1 => exact absurd h1 h
  | stop hj hx h hrm hat hc =>
    cases h' with
    | done h1 => exact absurd h h1
    | stop _ _ _ _ hat' _ => obtain ⟨rfl, rfl⟩ := at_one hr hat hat'; rfl
    | many _ _ _ _ hat' hc' => obtain ⟨rfl, rfl⟩ := at_one hr hat hat'; exact absurd hc' hc
    | over _ _ _ _ hat' hc' => obtain ⟨rfl, rfl⟩ := at_one hr hat hat'; exact absurd hc' hc
    | go _ h1 => exact absurd hrm h1
  | many hj hx h hrm hat hc ho =>
    cases h' with
    | done h1 => exact absurd h h1
    | stop _ _ _ _ hat' hc' => obtain ⟨rfl, rfl⟩ := at_one hr hat hat'; exact absurd hc hc'
    | many _ _ _ _ hat' _ _ => obtain ⟨rfl, rfl⟩ := at_one hr hat hat'; rfl
    | over _ _ _ _ _ _ ho' => exact absurd ho ho'
    | go _ h1 => exact absurd hrm h1
  | over hj hx h hrm hat hc ho n ih =>
    cases h' with
    | done h1 => exact absurd h h1
    | stop _ _ _ _ hat' hc' => obtain ⟨rfl, rfl⟩ := at_one hr hat hat'; exact absurd hc hc'
    | many _ _ _ _ _ _ ho' => exact absurd ho' ho
    | over _ _ _ _ hat' _ _ n' => obtain ⟨rfl, rfl⟩ := at_one hr hat hat'; exact ih n'
    | go _ h1 => exact absurd hrm h1
  | go h hrm n ih =>
    cases h' with
    | done h1 => exact absurd h h1
    | stop _ _ _ h1 => exact absurd h1 hrm
    | many _ _ _ h1 => exact absurd h1 hrm
    | over _ _ _ h1 => exact absurd h1 hrm
    | go _ _ n' => exact ih n'

theorem mem_ends_ok {N : Nt} (hr : netOk N = (0, 0)) {j : Nat} (hj : j < N.jts.length) {e : Int × Int} (h : e ∈ N.jts[j].ends) : endOk N.pcs.length e = true := by
  obtain ⟨i, hi, he⟩ := List.getElem_of_mem h
  exact endOk_of_at (right_facts hr).2.2.1 ⟨hj, hi, he⟩

theorem acr_sub {j : Jt} {i : Nat} {e : Int × Int} (h : e ∈ acr j i) : e ∈ j.ends := by
  unfold acr at h
  repeat' split at h
  all_goals
    simp only [List.mem_append, Option.mem_toList, List.not_mem_nil] at h
    try (rcases h with h | h) <;> exact List.mem_of_getElem? h
    try exact List.mem_of_getElem? h

/-- The end behind a joint is an end of a piece. -/
theorem overP_ok {N : Nt} {xs : List Int} (hr : netOk N = (0, 0)) (hl : liesP N.jts xs = true) {e : Int × Int} {j i : Nat} (hj : j < N.jts.length) (hx : j < xs.length) (hat : At N.jts e j i) (hc : (overP N.jts[j] e i xs[j]).2 = 0) :
    endOk N.pcs.length (overP N.jts[j] e i xs[j]).1 = true := by
  have hB3 : jb3 N.pcs.length N.jts[j] = false := by rw [← jtBad3_jb3 hj]; exact (right_facts hr).2.2.1 j hj
  obtain ⟨⟨hk1, hk4⟩, hkl⟩ := jb3_len hB3
  obtain ⟨_, hil, _⟩ := hat
  have hlie : lieOk N.jts[j] xs[j] = true := by
    cases hbad : lieOk N.jts[j] xs[j]
    · rw [liesP_bad hj hx hbad] at hl; simp at hl
    · rfl
  have hx02 : 0 ≤ xs[j] ∧ xs[j] ≤ 2 := by simp only [lieOk, inR, Bool.and_eq_true, decide_eq_true_eq] at hlie; omega
  unfold overP at hc ⊢
  by_cases k1 : N.jts[j].kind = 1
  · rw [if_pos k1] at hc; simp at hc
  rw [if_neg k1] at hc ⊢
  by_cases k2 : N.jts[j].kind = 3 ∧ xs[j] = 0
  · rw [if_pos k2] at hc; simp at hc
  rw [if_neg k2] at hc ⊢
  by_cases k3 : N.jts[j].kind = 3 ∧ i = 0
  · rw [if_pos k3]
    have hlt : xs[j].toNat < N.jts[j].ends.length := by omega
    simp only [List.getElem?_eq_getElem hlt, Option.getD_some]
    exact mem_ends_ok hr hj (List.getElem_mem hlt)
  rw [if_neg k3] at hc ⊢
  by_cases k4 : N.jts[j].kind = 3 ∧ (i : Int) ≠ xs[j]
  · rw [if_pos k4] at hc; simp at hc
  rw [if_neg k4]
  have hpos : 0 < (acr N.jts[j] i).length := by
    unfold acr
    by_cases q2 : N.jts[j].kind = 2
    · have : 1 - i < N.jts[j].ends.length := by omega
      simp [q2, this]
    · by_cases q3 : N.jts[j].kind = 3
      · have h0 : i ≠ 0 := fun e => k3 ⟨q3, e⟩
        have : 0 < N.jts[j].ends.length := by omega
        simp [q3, h0, this]
      · have q4 : N.jts[j].kind = 4 := by omega
        have : (if i = 0 then 1 else if i = 1 then 0 else if i = 2 then 3 else 2) < N.jts[j].ends.length := by split; omega; split; omega; split <;> omega
        simp [q4, this]
  simp only [List.getElem?_eq_getElem hpos, Option.getD_some]
  exact mem_ends_ok hr hj (acr_sub (List.getElem_mem hpos))

theorem enterP_ok {N : Nt} (hr : netOk N = (0, 0)) {e : Int × Int} (h : endOk N.pcs.length e = true) : spotP N (enterP N e).1 (enterP N e).2.1 (enterP N e).2.2 = true := by
  simp only [endOk, inR, Bool.and_eq_true, decide_eq_true_eq] at h
  obtain ⟨k, hk⟩ := Int.eq_ofNat_of_zero_le h.1.1
  have hkl : k < N.pcs.length := by omega
  have hpc : 0 ≤ N.pcs[k].len := by
    have h2 := (right_facts hr).2.1 k hkl
    rw [pcBad_eq hkl] at h2
    simp only [Bool.or_eq_false_iff, Bool.not_eq_false', Pc.ok, Bool.and_eq_true, inR, decide_eq_true_eq] at h2
    omega
  have hlen : lenAt N e.1 = N.pcs[k].len := by rw [hk]; exact lenAt_nat N k hkl
  unfold enterP
  split
  · simp only [spotP, inR, Bool.and_eq_true, decide_eq_true_eq, hlen]
    refine ⟨⟨by omega, by rfl⟩, by omega⟩
  · simp only [spotP, inR, Bool.and_eq_true, decide_eq_true_eq, hlen]
    refine ⟨⟨by omega, by rfl⟩, by omega⟩
end Go.Proofs.YtldafgbhjpfboaaGreat

/- How switches have to lie for steps: plain. Own work. -/
namespace Go.Proofs.YtldafgbhjpfboaaGreat

def seatJ (N : Nt) (e : Int × Int) : Nat := ((seatTo N.jts N.jts.length e).getD (0, 0, 0)).1.toNat
def seatI (N : Nt) (e : Int × Int) : Nat := ((seatTo N.jts N.jts.length e).getD (0, 0, 0)).2.1.toNat

theorem seat_look {N : Nt} (hr : netOk N = (0, 0)) {e : Int × Int} (he : endOk N.pcs.length e = true) : ∃ t, (seatTo N.jts N.jts.length e).getD (0, 0, 0) = ((seatJ N e : Int), (seatI N e : Int), t) ∧ At N.jts e (seatJ N e) (seatI N e) := by
  have hsi := seatIs_right hr e
  have hsome : (seatTo N.jts N.jts.length e).isSome = true := by
    cases hs : (seatTo N.jts N.jts.length e).isSome
    · rw [hs] at hsi
      exact absurd ⟨hr, he⟩ (hsi.2 rfl)
    · rfl
  obtain ⟨_, j, i, hj1, hi1, hat⟩ := hsi.1 hsome
  have ej : seatJ N e = j := by unfold seatJ; rw [hj1]; simp
  have ei : seatI N e = i := by unfold seatI; rw [hi1]; simp
  rw [ej, ei]
  refine ⟨((seatTo N.jts N.jts.length e).getD (0, 0, 0)).2.2, ?_, hat⟩
  rw [← hj1, ← hi1]

theorem seat_of_at {N : Nt} (hr : netOk N = (0, 0)) {e : Int × Int} {j i : Nat} (h : At N.jts e j i) : seatJ N e = j ∧ seatI N e = i := by
  obtain ⟨_, _, h2⟩ := seat_look hr (endOk_of_at (right_facts hr).2.2.1 h)
  exact at_one hr h2 h

/-- Over which joint one comes from a step to the next, and how it has to lie: 0 where it is no switch. -/
def wantP (N : Nt) (a b : Int × Int) : Option (Nat × Int) :=
  match N.jts[seatJ N (headP a.1 a.2)]? with
  | none => none
  | some J => if headP b.1 (-b.2) ∈ acr J (seatI N (headP a.1 a.2)) then some (seatJ N (headP a.1 a.2), if J.kind = 3 then (seatI N (headP a.1 a.2) : Int) + (seatI N (headP b.1 (-b.2)) : Int) else 0) else none

theorem want_no {N : Nt} (hr : netOk N = (0, 0)) {a b : Int × Int} {j k : Nat} (h : At N.jts (headP a.1 a.2) j k) (hj : j < N.jts.length) (hn : ¬ headP b.1 (-b.2) ∈ acr N.jts[j] k) : wantP N a b = none := by
  obtain ⟨h1, h2⟩ := seat_of_at hr h
  unfold wantP
  rw [h1, h2, List.getElem?_eq_getElem hj]
  simp [hn]
theorem want_0 {N : Nt} (hr : netOk N = (0, 0)) {a b : Int × Int} {j k : Nat} (h : At N.jts (headP a.1 a.2) j k) (hj : j < N.jts.length) (hn : headP b.1 (-b.2) ∈ acr N.jts[j] k) (hk : ¬ N.jts[j].kind = 3) : wantP N a b = some (j, 0) := by
  obtain ⟨h1, h2⟩ := seat_of_at hr h
  unfold wantP
  rw [h1, h2, List.getElem?_eq_getElem hj]
  simp [hn, hk]
theorem want_3 {N : Nt} (hr : netOk N = (0, 0)) {a b : Int × Int} {j k j' m : Nat} (h : At N.jts (headP a.1 a.2) j k) (h' : At N.jts (headP b.1 (-b.2)) j' m) (hj : j < N.jts.length) (hn : headP b.1 (-b.2) ∈ acr N.jts[j] k) (hk : N.jts[j].kind = 3) : wantP N a b = some (j, (k : Int) + m) := by
  obtain ⟨h1, h2⟩ := seat_of_at hr h
  unfold wantP
  rw [h1, h2, List.getElem?_eq_getElem hj]
  simp [hn, hk, (seat_of_at hr h').2]

theorem tip_of {J : Jt} {k : Nat} {f : Int × Int} (hk : J.kind = 3) (h : f ∈ acr J k) : ∃ (m : Nat) (hm : m < J.ends.length), J.ends[m] = f ∧ ((k = 0 ∧ (m = 1 ∨ m = 2)) ∨ (¬ k = 0 ∧ m = 0)) := by
  have e2 : ¬ J.kind = 2 := by omega
  unfold acr at h
  rw [if_neg e2, if_pos hk] at h
  by_cases h0 : k = 0
  · rw [if_pos h0] at h
    simp only [List.mem_append, Option.mem_toList, List.getElem?_eq_some_iff] at h
    rcases h with ⟨hm, h⟩ | ⟨hm, h⟩
    · exact ⟨1, hm, h, .inl ⟨h0, .inl rfl⟩⟩
    · exact ⟨2, hm, h, .inl ⟨h0, .inr rfl⟩⟩
  · rw [if_neg h0] at h
    simp only [Option.mem_toList, List.getElem?_eq_some_iff] at h
    obtain ⟨hm, h⟩ := h
    exact ⟨0, hm, h, .inr ⟨h0, rfl⟩⟩

/-- At a switch one of the two ends is the tip. -/
theorem want_tip {N : Nt} (hr : netOk N = (0, 0)) {e f : Int × Int} {j k j' m : Nat} (h : At N.jts e j k) (h' : At N.jts f j' m) (hj : j < N.jts.length) (hn : f ∈ acr N.jts[j] k) (hk : N.jts[j].kind = 3) : (k = 0 ∧ (m = 1 ∨ m = 2)) ∨ (m = 0 ∧ (k = 1 ∨ k = 2)) := by
  obtain ⟨m', hm', he, hc⟩ := tip_of hk hn
  obtain ⟨_, rfl⟩ := at_one hr (show At N.jts f j m' from ⟨hj, hm', he⟩) h'
  obtain ⟨_, hkl, _⟩ := h
  have hl := (jb3_len (n := N.pcs.length) (j := N.jts[j]) (by rw [← jtBad3_jb3 hj]; exact (right_facts hr).2.2.1 j hj)).2
  omega

/-- How the switches have to lie that were met, and one more. -/
def lieAdd (out : List (Int × Int)) (j : Nat) (l : Int) : Option (List (Int × Int)) :=
  if l = 0 then some out else if out.any (fun y => y.1 == (j : Int) && y.2 != l) then none else if out.any (fun y => y.1 == (j : Int)) then some out else some (out ++ [((j : Int), l)])

def liesTo (N : Nt) (ss : List (Int × Int)) : Nat → Option (List (Int × Int))
  | 0 => some []
  | i + 1 => match liesTo N ss i with
    | none => none
    | some out => match wantP N ss[i]! ss[i + 1]! with
      | none => none
      | some (j, l) => lieAdd out j l

theorem liesTo_none {N : Nt} {ss : List (Int × Int)} {i : Nat} (h : liesTo N ss i = none) : ∀ k, liesTo N ss (i + k) = none := by
  intro k
  induction k with
  | zero => exact h
  | succ k ih =>
    show liesTo N ss (i + k + 1) = none
    unfold liesTo
    rw [ih]

theorem liesTo_succ {N : Nt} {ss : List (Int × Int)} {i : Nat} {out : List (Int × Int)} {j : Nat} {l : Int} (h : liesTo N ss i = some out) (hw : wantP N ss[i]! ss[i + 1]! = some (j, l)) : liesTo N ss (i + 1) = lieAdd out j l := by
  rw [liesTo, h]; simp only [hw]
theorem liesTo_no {N : Nt} {ss : List (Int × Int)} {i : Nat} {out : List (Int × Int)} (h : liesTo N ss i = some out) (hw : wantP N ss[i]! ss[i + 1]! = none) : liesTo N ss (i + 1) = none := by
  rw [liesTo, h]; simp only [hw]

theorem lieAdd_len {out out' : List (Int × Int)} {j : Nat} {l : Int} (h : lieAdd out j l = some out') : out'.length ≤ out.length + 1 := by
  unfold lieAdd at h
  split at h
  · cases h; omega
  · split at h
    · cases h
    · split at h <;> (cases h; simp)

/-- What is known of the joints, against the list of those that were met. -/
def KnownIs (N : Nt) (out : List (Int × Int)) (kn : Nat → Int) : Prop :=
  ∀ j (hj : j < N.jts.length), (kn j = 0 ∧ ∀ y ∈ out, ¬ y.1 = (j : Int)) ∨ (¬ kn j = 0 ∧ N.jts[j].kind = 3 ∧ ((j : Int), kn j) ∈ out ∧ ∀ y ∈ out, y.1 = (j : Int) → y.2 = kn j)

theorem known_nil (N : Nt) : KnownIs N [] (fun _ => 0) := fun _ _ => .inl ⟨rfl, fun y hy => by simp at hy⟩
theorem known_same {N : Nt} {out : List (Int × Int)} {kn : Nat → Int} (h : KnownIs N out kn) {j : Nat} (hj : j < N.jts.length) : lieAdd out j (kn j) = some out := by
  unfold lieAdd
  by_cases h0 : kn j = 0
  · rw [if_pos h0]
  · rw [if_neg h0]
    rcases h j hj with h | ⟨_, _, hm, hall⟩
    · exact absurd h.1 h0
    · have h1 : (out.any fun y => y.1 == (j : Int) && y.2 != kn j) = false := by
        rw [List.any_eq_false]
        intro y hy
        simp only [Bool.and_eq_true, beq_iff_eq, bne_iff_ne, ne_eq, not_and, Classical.not_not]
        exact hall y hy
      have h2 : (out.any fun y => y.1 == (j : Int)) = true := by
        rw [List.any_eq_true]
        exact ⟨_, hm, by simp⟩
      rw [h1, h2]; simp
theorem known_new {N : Nt} {out : List (Int × Int)} {kn : Nat → Int} (h : KnownIs N out kn) {j : Nat} (hj : j < N.jts.length) (h0 : kn j = 0) {l : Int} (hl : ¬ l = 0) (h3 : N.jts[j].kind = 3) :
    lieAdd out j l = some (out ++ [((j : Int), l)]) ∧ KnownIs N (out ++ [((j : Int), l)]) (fun i => if i = j then l else kn i) := by
  have hno : ∀ y ∈ out, ¬ y.1 = (j : Int) := by
    rcases h j hj with h | h
    · exact h.2
    · exact absurd h0 h.1
  constructor
  · unfold lieAdd
    rw [if_neg hl]
    have h1 : (out.any fun y => y.1 == (j : Int) && y.2 != l) = false := by
      rw [List.any_eq_false]
      intro y hy
      simp only [Bool.and_eq_true, beq_iff_eq, not_and]
      intro he
      exact absurd he (hno y hy)
    have h2 : (out.any fun y => y.1 == (j : Int)) = false := by
      rw [List.any_eq_false]
      intro y hy
      simp only [beq_iff_eq]
      exact hno y hy
    rw [h1, h2]; simp
  · intro i hi
    by_cases e : i = j
    · subst e
      refine .inr ⟨by simpa using hl, h3, by simp, ?_⟩
      intro y hy hy1
      rcases List.mem_append.1 hy with hy | hy
      · exact absurd hy1 (hno y hy)
      · have : y = ((i : Int), l) := by simpa using hy
        rw [this]; simp
    · have hne : ¬ ((j : Int) = (i : Int)) := by omega
      rcases h i hi with ⟨h1, h2⟩ | ⟨h1, h2, h4, h5⟩
      · refine .inl ⟨by simp only [if_neg e]; exact h1, ?_⟩
        intro y hy
        rcases List.mem_append.1 hy with hy | hy
        · exact h2 y hy
        · have : y = ((j : Int), l) := by simpa using hy
          rw [this]; exact hne
      · refine .inr ⟨by simp only [if_neg e]; exact h1, h2, ?_, ?_⟩
        · simp only [if_neg e]; exact List.mem_append_left _ h4
        · intro y hy hy1
          simp only [if_neg e]
          rcases List.mem_append.1 hy with hy | hy
          · exact h5 y hy hy1
          · have : y = ((j : Int), l) := by simpa using hy
            rw [this] at hy1; exact absurd hy1 hne
theorem known_not {N : Nt} {out : List (Int × Int)} {kn : Nat → Int} (h : KnownIs N out kn) {j : Nat} (hj : j < N.jts.length) (h0 : ¬ kn j = 0) {l : Int} (hl : ¬ kn j = l) (h3 : N.jts[j].kind = 3 → ¬ l = 0) : lieAdd out j l = none := by
  rcases h j hj with h | ⟨_, hk, hm, _⟩
  · exact absurd h.1 h0
  · unfold lieAdd
    rw [if_neg (h3 hk), if_pos]
    rw [List.any_eq_true]
    exact ⟨_, hm, by simpa using hl⟩

/-- A step of a net. -/
def stepOk (n : Nat) (s : Int × Int) : Bool := inR s.1 0 ((n : Int) - 1) && (s.2 == 1 || s.2 == -1)
theorem stepOk_ends {n : Nat} {s : Int × Int} (h : stepOk n s = true) : endOk n (headP s.1 s.2) = true ∧ endOk n (headP s.1 (-s.2)) = true := by
  simp only [stepOk, Bool.and_eq_true, inR, decide_eq_true_eq] at h
  constructor <;> (unfold headP endOk inR; split <;> (simp only [Bool.and_eq_true, decide_eq_true_eq]; omega))
def stepsP (N : Nt) (ss : List (Int × Int)) : Bool := decide (ss.length ≤ 400) && ss.all (stepOk N.pcs.length)
/-- PathLies, and whether the steps are such that switches can lie for them. -/
def liesQ (N : Nt) (ss : List (Int × Int)) : Option (List (Int × Int)) := if netOk N = (0, 0) ∧ stepsP N ss = true then liesTo N ss (ss.length - 1) else none
end Go.Proofs.YtldafgbhjpfboaaGreat
