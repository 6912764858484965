/- The best way to a step, as one answer; what Shortest answers: plain. Own work. -/
import Derived.Test.YtijdigdcmjdooaaGreatMxAK
import Derived.Test.YtijdigdcmjdooaaGreatDrS
import Derived.Test.YtijdigdcmjdooaaGreatMxAB
import Derived.Test.YtijdigdcmjdooaaGreatMxAO
import Derived.Test.YtijdigdcmjdooaaGreatMxAC
import Derived.Test.YtijdigdcmjdooaaGreatMxAL
namespace Go.Proofs.YtijdigdcmjdooaaGreat
set_option maxHeartbeats 1000000

open Classical in
noncomputable def bestO (G : Gr) (s : Int × Int) (room : Int) (t : Int × Int) : Option Wy := if h : ∃ b, BestW (ToW G s room t) b then some (Classical.choose h) else none
section
variable {G : Gr} {s : Int × Int} {room : Int}
theorem bestO_some {t : Int × Int} {b : Wy} (h : BestW (ToW G s room t) b) : bestO G s room t = some b := by
  have hx : ∃ b, BestW (ToW G s room t) b := ⟨b, h⟩
  unfold bestO
  rw [dif_pos hx]
  exact congrArg some ((Classical.choose_spec hx).one h)
theorem bestO_none {t : Int × Int} (h : ∀ y, ¬ ToW G s room t y) : bestO G s room t = none := by
  unfold bestO
  rw [dif_neg]
  rintro ⟨b, hb⟩
  exact h b hb.1
theorem bestO_way {t : Int × Int} {b : Wy} (h : bestO G s room t = some b) : ToW G s room t b := by
  unfold bestO at h
  split at h
  · rename_i hx
    cases h
    exact (Classical.choose_spec hx).1
  · cases h
/-- Rounds end with it. -/
theorem round_best (hr : 0 ≤ room) {k : Nat} {best : Int × Int → Option Wy} (h : RoundI G s room k best []) (t : Int × Int) : best t = bestO G s room t := by
  obtain ⟨h1, h2⟩ := round_end hr h
  cases hb : best t with
  | none => rw [bestO_none (h2 t hb)]
  | some b => rw [bestO_some (h1 t b hb)]
/-- And so does what is nearest first. -/
theorem dij_best (hr : 0 ≤ room) {known : Int × Int → Option Wy} {opn : List Wy} (h : DijJ G s room known opn) (h0 : opn = []) (t : Int × Int) : known t = bestO G s room t := by
  subst h0
  cases hb : known t with
  | none => rw [bestO_none (fun y hy => h.inv.all hr hy hb)]
  | some b => rw [bestO_some (h.inv.best t b hb)]
/-- A way over joints is as far as the room at its start, at least. -/
theorem WayR.room_le {y : Wy} (hr : 0 ≤ room) (h : WayR G s room y) (h2 : 2 ≤ y.ss.length) : room ≤ y.far := by
  induction h with
  | base => simp at h2
  | @more y t e h ht he ih =>
    have h3 := cost_nonneg hr h ht
    by_cases h4 : 2 ≤ y.ss.length
    · have := ih h4
      show room ≤ y.far + costW G room y t
      omega
    · have h5 := h.pos
      have h6 : y.ss.length = 1 := by omega
      have h7 : 0 ≤ y.far := by
        cases h with
        | base => exact Int.le_refl _
        | more h' _ _ =>
          have h8 := h'.pos
          rw [extW_len] at h6
          omega
      show room ≤ y.far + costW G room y t
      unfold costW
      rw [if_pos h6]
      omega
theorem bestO_le {t : Int × Int} {b y : Wy} (h : bestO G s room t = some b) (hy : ToW G s room t y) : leW b y := by
  unfold bestO at h
  split at h
  · rename_i hx
    cases h
    exact (Classical.choose_spec hx).2 y hy
  · cases h
theorem le_far {a b : Wy} (h : leW a b) : a.far ≤ b.far := by
  unfold leW lessW at h
  split at h
  · omega
  · simp only [decide_eq_false_iff_not] at h
    omega
end
theorem WayR.head {G : Gr} {s : Int × Int} {room : Int} {y : Wy} (h : WayR G s room y) : y.ss.head? = some s := by
  induction h with
  | base => rfl
  | @more y t e h ht he ih =>
    show (y.ss ++ [stepOf e]).head? = some s
    cases hy : y.ss with
    | nil => rw [hy] at ih; cases ih
    | cons a l => rw [hy] at ih; simpa using ih
theorem rounds_go {G : Gr} {s : Int × Int} {room : Int} (hr : 0 ≤ room) : ∀ k, ∃ best line, RoundI G s room k best line
  | 0 => ⟨_, _, round_start⟩
  | k + 1 => by
    obtain ⟨best, line, h⟩ := rounds_go hr k
    exact ⟨_, _, round_next hr h⟩
theorem bestO_short {G : Gr} {s : Int × Int} {room : Int} (hr : 0 ≤ room) {t : Int × Int} {y : Wy} (h : bestO G s room t = some y) : y.ss.length ≤ 2 * G.n + 1 := by
  obtain ⟨best, line, hR⟩ := rounds_go (G := G) (s := s) hr (2 * G.n + 1)
  have h0 : line = [] := by
    by_cases e : line = []
    · exact e
    · have := round_few hR e
      omega
  subst h0
  have hb := round_best hr hR t
  rw [h] at hb
  exact hR.short t y hb
theorem bestO_none' {G : Gr} {s : Int × Int} {room : Int} (hr : 0 ≤ room) {t : Int × Int} (h : bestO G s room t = none) (y : Wy) : ¬ ToW G s room t y := by
  obtain ⟨best, line, hR⟩ := rounds_go (G := G) (s := s) hr (2 * G.n + 1)
  have h0 : line = [] := by
    by_cases e : line = []
    · exact e
    · have := round_few hR e
      omega
  subst h0
  have hb := round_best hr hR t
  rw [h] at hb
  exact (round_end hr hR).2 t hb y
end Go.Proofs.YtijdigdcmjdooaaGreat

/- spec.Drive, eqDriven. Own work. -/
namespace Go.Proofs.YtijdigdcmjdooaaGreat
open Go.RowKit
set_option maxHeartbeats 2000000

/-- What Drive answers. -/
def DriveA (N : Nt) (xs : List Int) (q at' way far : Int) (t : DRes) : Prop :=
  if goodP N xs q at' way far = true then ∃ r : DRes, DriveR N xs far 0 q at' way 0 [] r ∧ t = ⟨r.code, r.far, r.joint, r.q, r.at', r.way, []⟩ else t = ⟨4, 0, 0, 0, 0, 0, []⟩

theorem good_all {N : Nt} {xs : List Int} {q at' way far : Int} (h : goodP N xs q at' way far = true) : netOk N = (0, 0) ∧ liesP N.jts xs = true ∧ spotP N q at' way = true ∧ 0 ≤ far ∧ far ≤ 1000000 := by
  simp only [goodP, inR, Bool.and_eq_true, decide_eq_true_eq] at h
  exact ⟨h.1.1.1, h.1.1.2, h.1.2, h.2.1, h.2.2⟩

theorem driveA_one {N : Nt} {xs : List Int} {q at' way far : Int} {t t' : DRes} (h : DriveA N xs q at' way far t) (h' : DriveA N xs q at' way far t') : t = t' := by
  unfold DriveA at h h'
  split at h
  · rename_i hg
    rw [if_pos hg] at h'
    obtain ⟨r, hr, rfl⟩ := h
    obtain ⟨r', hr', rfl⟩ := h'
    rw [drive_one (good_all hg).1 hr hr']
  · rename_i hg
    rw [if_neg hg] at h'
    rw [h, h']

theorem below6 {w wq : World} (hb : Below w.heap.size w wq) (x0 x1 x2 x3 x4 x5 : Value) :
    Below w.heap.size w ((((((wq.setCell ⟨w.heap.size + 1 + 1, 0, none⟩ x0).setCell ⟨w.heap.size + 1 + 1, 1, none⟩ x1).setCell ⟨w.heap.size + 1 + 1, 2, none⟩ x2).setCell ⟨w.heap.size + 1 + 1, 3, none⟩ x3).setCell ⟨w.heap.size + 1 + 1, 4, none⟩ x4).setCell ⟨w.heap.size + 1 + 1, 5, none⟩ x5) := by
  have hle : w.heap.size ≤ w.heap.size + 1 + 1 := by omega
  exact (((((hb.setCell hle _).setCell hle _).setCell hle _).setCell hle _).setCell hle _).setCell hle _

end Go.Proofs.YtijdigdcmjdooaaGreat

/- Drives add up: plain. Own work. -/
namespace Go.Proofs.YtijdigdcmjdooaaGreat

/-- What a drive comes to but for its parts. -/
structure SameD (r r' : DRes) : Prop where
  code : r.code = r'.code
  far : r.far = r'.far
  joint : r.joint = r'.joint
  q : r.q = r'.q
  at' : r.at' = r'.at'
  way : r.way = r'.way
theorem SameD.refl (r : DRes) : SameD r r := ⟨rfl, rfl, rfl, rfl, rfl, rfl⟩
theorem SameD.symm {r r' : DRes} (h : SameD r r') : SameD r' r := ⟨h.code.symm, h.far.symm, h.joint.symm, h.q.symm, h.at'.symm, h.way.symm⟩
theorem SameD.trans {r r' r'' : DRes} (h : SameD r r') (k : SameD r' r'') : SameD r r'' := ⟨h.code.trans k.code, h.far.trans k.far, h.joint.trans k.joint, h.q.trans k.q, h.at'.trans k.at', h.way.trans k.way⟩

/-- The parts that lie ahead don't matter. -/
theorem drive_parts {N : Nt} {xs : List Int} {far : Int} {f q a wy : Int} {ov : Nat} {ps : List (Int × Int × Int)} {r : DRes}
    (h : DriveR N xs far f q a wy ov ps r) : ∀ ps', ∃ r', DriveR N xs far f q a wy ov ps' r' ∧ SameD r' r := by
  induction h with
  | done h => exact fun ps' => ⟨_, .done h, ⟨rfl, rfl, rfl, rfl, rfl, rfl⟩⟩
  | stop hj hx h hrm hat hc => exact fun ps' => ⟨_, .stop hj hx h hrm hat hc, ⟨rfl, rfl, rfl, rfl, rfl, rfl⟩⟩
  | many hj hx h hrm hat hc ho => exact fun ps' => ⟨_, .many hj hx h hrm hat hc ho, ⟨rfl, rfl, rfl, rfl, rfl, rfl⟩⟩
  | over hj hx h hrm hat hc ho n ih =>
    intro ps'
    obtain ⟨r', h1, h2⟩ := ih ps'
    exact ⟨r', .over hj hx h hrm hat hc ho h1, h2⟩
  | go h hrm n ih =>
    intro ps'
    obtain ⟨r', h1, h2⟩ := ih (ps' ++ [_])
    exact ⟨r', .go h hrm h1, h2⟩

/-- Over how many joints a drive has come doesn't matter, where neither goes over too many. -/
theorem drive_core {N : Nt} {xs : List Int} {far : Int} (hr : netOk N = (0, 0)) {f q a wy : Int} {ov : Nat} {ps : List (Int × Int × Int)} {r : DRes}
    (h : DriveR N xs far f q a wy ov ps r) : ∀ {ov' ps' r'}, DriveR N xs far f q a wy ov' ps' r' → ¬ r.code = 5 → ¬ r'.code = 5 → SameD r r' := by
  induction h with
  | done h =>
    intro ov' ps' r' h' _ _
    cases h' with
    | done => exact ⟨rfl, rfl, rfl, rfl, rfl, rfl⟩
    | stop _ _ h1 => exact absurd h1 h
    | many _ _ h1 => exact absurd h1 h
    | over _ _ h1 => exact absurd h1 h
    | go h1 => exact absurd h1 h
  | stop hj hx h hrm hat hc =>
    intro ov' ps' r' h' _ _
    cases h' with
    | done h1 => exact absurd h h1
    | stop _ _ _ _ hat' _ => obtain ⟨rfl, rfl⟩ := at_one hr hat hat'; exact ⟨rfl, rfl, rfl, rfl, rfl, rfl⟩
    | many _ _ _ _ hat' hc' => obtain ⟨rfl, rfl⟩ := at_one hr hat hat'; exact absurd hc' hc
    | over _ _ _ _ hat' hc' => obtain ⟨rfl, rfl⟩ := at_one hr hat hat'; exact absurd hc' hc
    | go _ h1 => exact absurd hrm h1
  | many hj hx h hrm hat hc ho =>
    intro ov' ps' r' h' h5 _
    exact absurd rfl h5
  | over hj hx h hrm hat hc ho n ih =>
    intro ov' ps' r' h' h5 h5'
    cases h' with
    | done h1 => exact absurd h h1
    | stop _ _ _ _ hat' hc' => obtain ⟨rfl, rfl⟩ := at_one hr hat hat'; exact absurd hc hc'
    | many _ _ _ _ _ _ ho' => exact absurd rfl h5'
    | over _ _ _ _ hat' _ _ n' => obtain ⟨rfl, rfl⟩ := at_one hr hat hat'; exact ih n' h5 h5'
    | go _ h1 => exact absurd hrm h1
  | go h hrm n ih =>
    intro ov' ps' r' h' h5 h5'
    cases h' with
    | done h1 => exact absurd h h1
    | stop _ _ _ h1 => exact absurd h1 hrm
    | many _ _ _ h1 => exact absurd h1 hrm
    | over _ _ _ h1 => exact absurd h1 hrm
    | go _ _ n' => exact ih n' h5 h5'

/-- How far one has come may be counted from elsewhere. -/
theorem drive_shift {N : Nt} {xs : List Int} {far : Int} (c : Int) {f q a wy : Int} {ov : Nat} {ps : List (Int × Int × Int)} {r : DRes}
    (h : DriveR N xs far f q a wy ov ps r) : DriveR N xs (far - c) (f - c) q a wy ov ps ⟨r.code, r.far - c, r.joint, r.q, r.at', r.way, r.ps⟩ := by
  induction h with
  | done h => exact .done (by omega)
  | stop hj hx h hrm hat hc => exact .stop hj hx (by omega) hrm hat hc
  | many hj hx h hrm hat hc ho => exact .many hj hx (by omega) hrm hat hc ho
  | over hj hx h hrm hat hc ho n ih => exact .over hj hx (by omega) hrm hat hc ho ih
  | @go f q a wy ov ps r h hrm n ih =>
    have e : stepP N (far - c) (f - c) q a wy = stepP N far f q a wy := by
      unfold stepP
      rw [show far - c - (f - c) = far - f by omega]
    refine .go (by omega) hrm ?_
    rw [e, show f - c + stepP N far f q a wy = f + stepP N far f q a wy - c by omega]
    exact ih

/-- A drive that ends early ends there also where it should have gone farther. -/
theorem drive_early {N : Nt} {xs : List Int} {far : Int} {far' : Int} (hf : far ≤ far') {f q a wy : Int} {ov : Nat} {ps : List (Int × Int × Int)} {r : DRes}
    (h : DriveR N xs far f q a wy ov ps r) : ¬ r.code = 0 → DriveR N xs far' f q a wy ov ps r := by
  induction h with
  | done h => exact fun hc => absurd rfl hc
  | stop hj hx h hrm hat hc => exact fun _ => .stop hj hx (by omega) hrm hat hc
  | many hj hx h hrm hat hc ho => exact fun _ => .many hj hx (by omega) hrm hat hc ho
  | over hj hx h hrm hat hc ho n ih => exact fun h0 => .over hj hx (by omega) hrm hat hc ho (ih h0)
  | @go f q a wy ov ps r h hrm n ih =>
    intro h0
    by_cases ht : roomP N q a wy > far - f
    · have e : stepP N far f q a wy = far - f := by unfold stepP; rw [if_pos ht]
      rw [e] at n
      cases n with
      | done => exact absurd rfl h0
      | stop _ _ h1 => omega
      | many _ _ h1 => omega
      | over _ _ h1 => omega
      | go h1 => omega
    · have e : stepP N far' f q a wy = stepP N far f q a wy := by
        unfold stepP; rw [if_neg ht, if_neg (by omega)]
      have := ih h0
      rw [← e] at this
      exact .go (by omega) hrm this

theorem room_on {N : Nt} {q a wy t : Int} (hw : wy = 1 ∨ wy = -1) : roomP N q (a + t * wy) wy = roomP N q a wy - t := by
  unfold roomP
  rcases hw with rfl | rfl
  · rw [if_pos rfl, if_pos rfl]; omega
  · rw [if_neg (by omega), if_neg (by omega)]; omega
theorem room_spot {N : Nt} {q a wy : Int} (h : spotP N q a wy = true) : 0 ≤ roomP N q a wy := by
  simp only [spotP, Bool.and_eq_true, inR, decide_eq_true_eq] at h
  unfold roomP
  split <;> omega
theorem spot_way {N : Nt} {q a wy : Int} (h : spotP N q a wy = true) : wy = 1 ∨ wy = -1 := by
  simp only [spotP, Bool.and_eq_true, Bool.or_eq_true, beq_iff_eq] at h
  exact h.1.2
theorem spot_go {N : Nt} {q a wy t : Int} (h : spotP N q a wy = true) (h0 : 0 ≤ t) (h1 : t ≤ roomP N q a wy) : spotP N q (a + t * wy) wy = true := by
  have hw := spot_way h
  simp only [spotP, Bool.and_eq_true, inR, decide_eq_true_eq] at h ⊢
  refine ⟨h.1, ?_⟩
  unfold roomP at h1
  rcases hw with rfl | rfl
  · rw [if_pos rfl] at h1; omega
  · rw [if_neg (by omega)] at h1; omega
theorem step_le {N : Nt} {far f q a wy : Int} : stepP N far f q a wy ≤ roomP N q a wy ∧ stepP N far f q a wy ≤ far - f := by
  unfold stepP; split <;> omega
theorem step_pos {N : Nt} {far f q a wy : Int} (h : f < far) (hs : spotP N q a wy = true) (hr : ¬ roomP N q a wy = 0) : 0 < stepP N far f q a wy := by
  have := room_spot hs
  unfold stepP; split <;> omega

/-- Where a drive comes to is a spot, and it is no farther than it should be. -/
theorem drive_spot {N : Nt} {xs : List Int} {far : Int} (hr : netOk N = (0, 0)) (hl : liesP N.jts xs = true) {f q a wy : Int} {ov : Nat} {ps : List (Int × Int × Int)} {r : DRes}
    (h : DriveR N xs far f q a wy ov ps r) : spotP N q a wy = true → f ≤ far → spotP N r.q r.at' r.way = true ∧ f ≤ r.far ∧ r.far ≤ far ∧ (r.code = 0 → r.far = far ∧ r.joint = -1) := by
  induction h with
  | done h => exact fun hs hf => ⟨hs, Int.le_refl _, hf, fun _ => ⟨by dsimp only; omega, rfl⟩⟩
  | stop hj hx h hrm hat hc => exact fun hs hf => ⟨hs, Int.le_refl _, hf, fun h0 => absurd h0 hc⟩
  | many hj hx h hrm hat hc ho => exact fun hs hf => ⟨hs, Int.le_refl _, hf, fun h0 => by simp at h0⟩
  | over hj hx h hrm hat hc ho n ih => exact fun hs hf => ih (enterP_ok hr (overP_ok hr hl hj hx hat hc)) hf
  | @go f q a wy ov ps r h hrm n ih =>
    intro hs hf
    have hp := step_pos h hs hrm
    have hle := step_le (N := N) (far := far) (f := f) (q := q) (a := a) (wy := wy)
    obtain ⟨h1, h2, h3, h4⟩ := ih (spot_go hs (by omega) hle.1) (by omega)
    exact ⟨h1, by omega, h3, h4⟩

/-- To drive farther at once is to drive on from where one is. -/
theorem drive_cut {N : Nt} {xs : List Int} {A B : Int} (hr : netOk N = (0, 0)) (hl : liesP N.jts xs = true) (hAB : A ≤ B) {f q a wy : Int} {ov : Nat} {ps : List (Int × Int × Int)} {r : DRes}
    (h : DriveR N xs A f q a wy ov ps r) : spotP N q a wy = true → f ≤ A → r.code = 0 → ∀ {ps2 y}, DriveR N xs B f q a wy ov ps2 y → ∃ ov' ps' y', DriveR N xs B A r.q r.at' r.way ov' ps' y' ∧ SameD y' y := by
  induction h with
  | @done f q a wy ov ps h =>
    intro hs hf _ ps2 y hy
    obtain rfl : f = A := by omega
    exact ⟨_, _, _, hy, SameD.refl _⟩
  | stop hj hx h hrm hat hc => exact fun _ _ h0 => absurd h0 hc
  | many hj hx h hrm hat hc ho => exact fun _ _ h0 => by simp at h0
  | over hj hx h hrm hat hc ho n ih =>
    intro hs hf h0 ps2 y hy
    cases hy with
    | done h1 => omega
    | stop _ _ _ _ hat' hc' => obtain ⟨rfl, rfl⟩ := at_one hr hat hat'; exact absurd hc hc'
    | many _ _ _ _ _ _ ho' => exact absurd ho' ho
    | over _ _ _ _ hat' _ _ n' =>
      obtain ⟨rfl, rfl⟩ := at_one hr hat hat'
      exact ih (enterP_ok hr (overP_ok hr hl hj hx hat hc)) hf h0 n'
    | go _ h1 => exact absurd hrm h1
  | @go f q a wy ov ps r h hrm n ih =>
    intro hs hf h0 ps2 y hy
    have hw := spot_way hs
    cases hy with
    | done h1 => omega
    | stop _ _ _ h1 => exact absurd h1 hrm
    | many _ _ _ h1 => exact absurd h1 hrm
    | over _ _ _ h1 => exact absurd h1 hrm
    | go _ _ n' =>
      by_cases ht : roomP N q a wy > A - f
      · have e : stepP N A f q a wy = A - f := by unfold stepP; rw [if_pos ht]
        rw [e, show f + (A - f) = A by omega] at n
        cases n with
        | done =>
          dsimp only
          by_cases hlt : A < B
          · have hroom := room_on (N := N) (q := q) (a := a) (t := A - f) hw
            have hrm' : ¬ roomP N q (a + (A - f) * wy) wy = 0 := by rw [hroom]; omega
            have est : stepP N B A q (a + (A - f) * wy) wy = stepP N B f q a wy - (A - f) := by
              unfold stepP
              rw [hroom]
              by_cases hb : roomP N q a wy > B - f
              · rw [if_pos hb, if_pos (by omega)]; omega
              · rw [if_neg hb, if_neg (by omega)]
            obtain ⟨y', h1, h2⟩ := drive_parts n' (ps ++ [partP q a (a + (A - f) * wy)] ++ [partP q (a + (A - f) * wy) (a + (A - f) * wy + stepP N B A q (a + (A - f) * wy) wy * wy)])
            refine ⟨ov, ps ++ [partP q a (a + (A - f) * wy)], y', .go hlt hrm' ?_, h2⟩
            have e1 : A + stepP N B A q (a + (A - f) * wy) wy = f + stepP N B f q a wy := by rw [est]; omega
            have e2 : a + (A - f) * wy + stepP N B A q (a + (A - f) * wy) wy * wy = a + stepP N B f q a wy * wy := by
              rw [est]
              rcases hw with rfl | rfl <;> omega
            rw [e1, e2]
            rw [e2] at h1
            exact h1
          · obtain rfl : A = B := by omega
            rw [e, show f + (A - f) = A by omega] at n'
            obtain ⟨y', h1, h2⟩ := drive_parts n' (ps ++ [partP q a (a + (A - f) * wy)])
            exact ⟨ov, _, y', h1, h2⟩
        | stop _ _ h1 => omega
        | many _ _ h1 => omega
        | over _ _ h1 => omega
        | go h1 => omega
      · have e : stepP N B f q a wy = stepP N A f q a wy := by
          unfold stepP; rw [if_neg ht, if_neg (by omega)]
        rw [e] at n'
        have hp := step_pos h hs hrm
        have hle := step_le (N := N) (far := A) (f := f) (q := q) (a := a) (wy := wy)
        exact ih (spot_go hs (by omega) hle.1) (by omega) h0 n'

/-- P3: to drive on from where one is is to drive farther at once. -/
theorem drive_on {N : Nt} {xs : List Int} {A B : Int} (hr : netOk N = (0, 0)) (hl : liesP N.jts xs = true) (h0 : 0 ≤ A) (hB : 0 ≤ B) {q a wy : Int} {x y z : DRes} (hs : spotP N q a wy = true)
    (hx : DriveR N xs A 0 q a wy 0 [] x) (hy : DriveR N xs (A + B) 0 q a wy 0 [] y) (hz : DriveR N xs B 0 x.q x.at' x.way 0 [] z) (hc : x.code = 0) (hz5 : ¬ z.code = 5) (hy5 : ¬ y.code = 5) :
    z.code = y.code ∧ z.q = y.q ∧ z.at' = y.at' ∧ z.way = y.way ∧ z.joint = y.joint ∧ z.far + A = y.far := by
  obtain ⟨ov', ps', y', h1, h2⟩ := drive_cut hr hl (by omega) hx hs h0 hc hy
  have h3 := drive_shift A h1
  rw [show A + B - A = B by omega, show A - A = 0 by omega] at h3
  have h4 := drive_core hr hz h3 hz5 (by dsimp only; rw [h2.code]; exact hy5)
  obtain ⟨c1, c2, c3, c4, c5, c6⟩ := h4
  dsimp only at c1 c2 c3 c4 c5 c6
  have hf := h2.far
  exact ⟨c1.trans h2.code, c4.trans h2.q, c5.trans h2.at', c6.trans h2.way, c3.trans h2.joint, by omega⟩
end Go.Proofs.YtijdigdcmjdooaaGreat

/- Stretch, plain. Own work. -/
namespace Go.Proofs.YtijdigdcmjdooaaGreat
set_option maxHeartbeats 1000000

/-- Where a path's step begins. -/
def atStep (N : Nt) (q a wy : Int) (ss : List (Int × Int)) (i : Nat) : Int × Int × Int := if i = 0 then (q, a, wy) else enterP N (headP ss[i]!.1 (-ss[i]!.2))
/-- How far is gone on from a spot, on its piece. -/
def goP (N : Nt) (left : Int) (s : Int × Int × Int) : Int := if roomP N s.1 s.2.1 s.2.2 > left then left else roomP N s.1 s.2.1 s.2.2
/-- What is left, and the parts, behind so many steps. -/
def strTo (N : Nt) (q a wy far : Int) (ss : List (Int × Int)) : Nat → Int × List Prt
  | 0 => (far, [])
  | i + 1 => ((strTo N q a wy far ss i).1 - goP N (strTo N q a wy far ss i).1 (atStep N q a wy ss i),
      (strTo N q a wy far ss i).2 ++ [partP (atStep N q a wy ss i).1 (atStep N q a wy ss i).2.1 ((atStep N q a wy ss i).2.1 + goP N (strTo N q a wy far ss i).1 (atStep N q a wy ss i) * (atStep N q a wy ss i).2.2)])
def StrOk (N : Nt) (ok : Bool) (far : Int) (ss : List (Int × Int)) (q a wy : Int) : Prop :=
  ok = true ∧ netOk N = (0, 0) ∧ spotP N q a wy = true ∧ inR far 0 1000000 = true ∧ ss.length ≠ 0 ∧ ss[0]! = (q, wy) ∧ stepsP N ss = true ∧ liesTo N ss (ss.length - 1) ≠ none
instance (N : Nt) (ok : Bool) (far : Int) (ss : List (Int × Int)) (q a wy : Int) : Decidable (StrOk N ok far ss q a wy) := by unfold StrOk; infer_instance
def stretchP (N : Nt) (ok : Bool) (far : Int) (ss : List (Int × Int)) (q a wy : Int) : List Prt :=
  if StrOk N ok far ss q a wy then (if (strTo N q a wy far ss ss.length).1 > 0 then [] else (strTo N q a wy far ss ss.length).2) else []

theorem str_not {N : Nt} {ok : Bool} {far : Int} {ss : List (Int × Int)} {q a wy : Int} (h : ¬ StrOk N ok far ss q a wy) : stretchP N ok far ss q a wy = [] := if_neg h
theorem str_left {N : Nt} {ok : Bool} {far : Int} {ss : List (Int × Int)} {q a wy : Int} (h : StrOk N ok far ss q a wy) (hl : (strTo N q a wy far ss ss.length).1 > 0) : stretchP N ok far ss q a wy = [] := by unfold stretchP; rw [if_pos h, if_pos hl]
theorem str_all {N : Nt} {ok : Bool} {far : Int} {ss : List (Int × Int)} {q a wy : Int} (h : StrOk N ok far ss q a wy) (hl : ¬ (strTo N q a wy far ss ss.length).1 > 0) : stretchP N ok far ss q a wy = (strTo N q a wy far ss ss.length).2 := by unfold stretchP; rw [if_pos h, if_neg hl]
theorem strTo_len (N : Nt) (q a wy far : Int) (ss : List (Int × Int)) (i : Nat) : (strTo N q a wy far ss i).2.length = i := by
  induction i with
  | zero => rfl
  | succ i ih => simp [strTo, ih]
theorem steps_at {N : Nt} {ss : List (Int × Int)} (h : stepsP N ss = true) {i : Nat} (hi : i < ss.length) : stepOk N.pcs.length ss[i]! = true := by
  simp only [stepsP, Bool.and_eq_true, List.all_eq_true] at h
  have : ss[i]! = ss[i] := by simp [hi]
  rw [this]
  exact h.2 _ (List.getElem_mem hi)
theorem steps_few {N : Nt} {ss : List (Int × Int)} (h : stepsP N ss = true) : ss.length ≤ 400 := by
  simp only [stepsP, Bool.and_eq_true, decide_eq_true_eq] at h
  exact h.1
theorem atStep_spot {N : Nt} {ss : List (Int × Int)} {q a wy : Int} (hr : netOk N = (0, 0)) (hs : spotP N q a wy = true) (h : stepsP N ss = true) {i : Nat} (hi : i < ss.length) : spotP N (atStep N q a wy ss i).1 (atStep N q a wy ss i).2.1 (atStep N q a wy ss i).2.2 = true := by
  unfold atStep
  split
  · exact hs
  · exact enterP_ok hr (stepOk_ends (steps_at h hi)).2
theorem goP_bd {N : Nt} {left : Int} {s : Int × Int × Int} (h : spotP N s.1 s.2.1 s.2.2 = true) (hl : 0 ≤ left) : 0 ≤ goP N left s ∧ goP N left s ≤ left ∧ goP N left s ≤ roomP N s.1 s.2.1 s.2.2 := by
  have := room_spot h
  unfold goP
  split <;> omega
theorem strTo_bd {N : Nt} {ss : List (Int × Int)} {q a wy far : Int} (hr : netOk N = (0, 0)) (hs : spotP N q a wy = true) (h : stepsP N ss = true) (hf : 0 ≤ far) {i : Nat} (hi : i ≤ ss.length) : 0 ≤ (strTo N q a wy far ss i).1 ∧ (strTo N q a wy far ss i).1 ≤ far := by
  induction i with
  | zero => exact ⟨hf, Int.le_refl _⟩
  | succ i ih =>
    have h1 := ih (by omega)
    have h2 := goP_bd (left := (strTo N q a wy far ss i).1) (atStep_spot hr hs h (show i < ss.length by omega)) h1.1
    simp only [strTo]
    omega
end Go.Proofs.YtijdigdcmjdooaaGreat

namespace Go.Proofs.YtijdigdcmjdooaaGreat
open Go.RowKit
set_option maxHeartbeats 1000000

theorem specSpotOk_any (a a' : Option Addr) (N : Nt) (cap cap' : Nat) (q at' way : Int) (w : World) (hn : N.pcs.length ≤ 1048576) (hs : ∀ p ∈ N.pcs, p.name.size ≤ 1048576) (hl : N.jts.length ≤ 1048576) (hm : ∀ j ∈ N.jts, j.name.size ≤ 1048576 ∧ j.ends.length ≤ 1048576) (hp : PcsAt w a N.pcs) (hj : JtsAt w a' N.jts) :
    Calls Tryz.prog 34 #[.agg #[.slice a N.pcs.length cap, .slice a' N.jts.length cap'], .agg #[.int .i64 q, .int .i64 at', .int .i64 way]] w fun e w' =>
    e = .returned (.bool (spotOkP N q at' way)) ∧ Below w.heap.size w w' := by
  have HP := hide hp
  have HJ := hide hj
  have HM := hide hm
  have HS := hide hs
  clear hp hj hm hs
  go_enter Tryz.func34, Tryz.ntmps34
  go_wp2_with fail
  have hbW : Below w.heap.size w ((w.alloc (.cells #[.slice a N.pcs.length cap, .slice a' N.jts.length cap'] 26)).alloc (.cells #[.int .i64 q, .int .i64 at', .int .i64 way] 29)) := ((Below.refl _ _).alloc (Nat.le_refl _) _).alloc (by simp) _
  refine (l1ok_any a a' N cap cap' _ hn HS.out hl HM.out (HP.out.later hbW) (HJ.out.later hbW)).mono ?_
  rintro e w1 ⟨rfl, hb1⟩
  have hb2 := hbW.trans (hb1.mono hbW.size)
  obtain ⟨hc, hf⟩ := bcell hb1
  have n0 : w1.cell? ⟨w.heap.size, 0, none⟩ = some (.slice a N.pcs.length cap) := by rw [hc _ _ (by simp; omega)]; simp [go_sem]
  have n1 : w1.cell? ⟨w.heap.size, 1, none⟩ = some (.slice a' N.jts.length cap') := by rw [hc _ _ (by simp; omega)]; simp [go_sem]
  have e0 : w1.cell? ⟨w.heap.size + 1, 0, none⟩ = some (.int .i64 q) := by rw [hc _ _ (by simp)]; simp [go_sem]
  have e1 : w1.cell? ⟨w.heap.size + 1, 1, none⟩ = some (.int .i64 at') := by rw [hc _ _ (by simp)]; simp [go_sem]
  have e2 : w1.cell? ⟨w.heap.size + 1, 2, none⟩ = some (.int .i64 way) := by rw [hc _ _ (by simp)]; simp [go_sem]
  clear hc hf hb1
  cases hr : decide (netOk N = (0, 0))
  · have HR := hide hr
    clear hr
    go_wp2_with fail
    go_ret
    exact ⟨ret_b (by rw [spotOkP, HR.out]; rfl), hb2⟩
  · have HR := hide hr
    clear hr
    go_wp2_with fail
    refine (l3spot_any _ _ N _ _ _ _ _ _ hn (HP.out.later hb2)).mono ?_
    rintro e w2 ⟨rfl, hb3⟩
    have hb4 := hb2.trans (hb3.mono hb2.size)
    go_wp2_with fail
    go_ret
    exact ⟨ret_b (by rw [spotOkP, HR.out]; rfl), hb4⟩

end Go.Proofs.YtijdigdcmjdooaaGreat
