/- roll, at every right spot; a cursor's base moved on. Own work. -/
import Derived.Test.YtplnppdlabpodaaCuR2
import Derived.Test.YtplnppdlabpodaaCuH
namespace Go.Proofs.Ytplnppdlabpodaa
open Go.RowKit
set_option maxHeartbeats 2000000

theorem rebase {w W : World} {B m n : Nat} {G : Int × Int → Option (Int × Int × Int)} {sp sj sl : Value} {w0 w1 : World} {q a wy : Int} {ov : Nat} (E : Env w W B m n G) (h : CS W B m sp sj sl w0 q a wy ov (.slice none 0 0) []) (hb : Below w0.heap.size w0 w1) :
    Env w w1 B m n G ∧ CS w1 B m sp sj sl w1 q a wy ov (.slice none 0 0) [] := by
  have h1 := h.later hb
  refine ⟨⟨h1.below E, E.wB, cell_lt h1.c0, h1.seat E, E.mB⟩, ?_⟩
  exact ⟨h1.c0, h1.c1, h1.c2, h1.c3, h1.c4, h1.c5, h1.c6, h1.c7, h1.c8, h1.fz, World.ownsRow_nil _ _ _ _, rfl, rfl, rfl, Nat.le_refl _, fun _ _ _ => rfl, cell_lt h1.c0⟩

theorem right_len {N : Nt} (hr : netOk N = (0, 0)) {k : Nat} (hk : k < N.pcs.length) : 1 ≤ N.pcs[k].len ∧ N.pcs[k].len ≤ 10000000 := by
  have h2 := (right_facts hr).2.1 k hk
  rw [pcBad_eq hk, Bool.or_eq_false_iff] at h2
  have h3 := h2.1
  simp [Pc.ok, inR] at h3
  omega

/-- What roll does. -/
def RollQ (N : Nt) (xs : List Int) (W : World) (B m : Nat) (sp sj sl : Value) (far f q a wy : Int) (ov : Nat) (ps : List (Int × Int × Int)) (e : Ending) (w2 : World) : Prop :=
  ∃ (st a2 : Int) (u2 : Value) (ps2 : List (Int × Int × Int)), e = .returned (.int .i64 (far - (f + st))) ∧ 0 ≤ st ∧ f + st ≤ far ∧ CS W B m sp sj sl w2 q a2 wy ov u2 ps2 ∧ (ps2.length : Int) ≤ f + st ∧ spotP N q a2 wy = true ∧ (f + st < far → roomP N q a2 wy = 0) ∧
    (∀ r, DriveR N xs far (f + st) q a2 wy ov ps2 r → DriveR N xs far f q a wy ov ps r) ∧ (f < far → ¬ roomP N q a wy = 0 → 0 < st)

theorem roll_any {w W : World} {B m n : Nat} {G : Int × Int → Option (Int × Int × Int)} {a : Option Addr} {N : Nt} {cap : Nat} {sj sl : Value} {w0 : World} {q a0 wy : Int} {ov : Nat} {u : Value} {ps : List (Int × Int × Int)} (xs : List Int) (far f : Int) (E : Env w W B m n G) (h : CS W B m (.slice a N.pcs.length cap) sj sl w0 q a0 wy ov u ps) (hright : netOk N = (0, 0)) (hspot : spotP N q a0 wy = true) (hf : 0 ≤ f ∧ f ≤ far ∧ far ≤ 1000000) (hps : (ps.length : Int) ≤ f) (hP : PcsAt w a N.pcs) :
    Calls Try.prog 132 #[.pointer (some ⟨B, 0, none⟩), .int .i64 (far - f)] w0 fun e w2 => RollQ N xs W B m (.slice a N.pcs.length cap) sj sl far f q a0 wy ov ps e w2 := by
  have hsp := hspot
  simp only [spotP, inR, Bool.and_eq_true, decide_eq_true_eq, Bool.or_eq_true, beq_iff_eq] at hsp
  obtain ⟨⟨⟨hq0, hq1⟩, hwy⟩, ha0, ha1⟩ := hsp
  obtain ⟨k, rfl⟩ := Int.eq_ofNat_of_zero_le hq0
  have hk : k < N.pcs.length := by omega
  rw [lenAt_nat N k hk] at ha1
  have hlen := right_len hright hk
  rcases hwy with rfl | rfl
  · obtain ⟨st, hst⟩ : ∃ st, (if N.pcs[k].len - a0 < far - f then N.pcs[k].len - a0 else far - f) = st := ⟨_, rfl⟩
    have hrv : roomP N k a0 1 = N.pcs[k].len - a0 := by simp [roomP, lenAt_nat N k hk]
    have hb : 0 ≤ st ∧ st ≤ far - f ∧ st ≤ N.pcs[k].len - a0 ∧ (st < far - f → st = N.pcs[k].len - a0) := by rw [← hst]; split <;> omega
    refine (roll_1 E h hk (by omega) ⟨ha0, ha1⟩ (far - f) st (by omega) hst (by omega) hP).mono fun e w2 h' => ?_
    obtain ⟨he, u2, hC⟩ := h'
    have hsp2 : spotP N k (a0 + st) 1 = true := by
      simp only [spotP, inR, Bool.and_eq_true, decide_eq_true_eq, lenAt_nat N k hk]
      exact ⟨⟨⟨by omega, by omega⟩, rfl⟩, by omega, by omega⟩
    have hr2 : f + st < far → roomP N k (a0 + st) 1 = 0 := fun hlt => by
      have := hb.2.2.2 (by omega)
      simp only [roomP, lenAt_nat N k hk, if_true]
      omega
    by_cases hz : st = 0
    · subst hz
      refine ⟨0, a0 + 0, u2, ps, by rw [he]; exact ret_i (by omega), by omega, by omega, by simpa using hC, by omega, hsp2, hr2, fun r hd => by simpa using hd, fun hlt hrm => ?_⟩
      have := hb.2.2.2 (by omega)
      exact absurd (by rw [hrv]; omega) hrm
    · rw [if_neg hz] at hC
      have hstp : stepP N far f k a0 1 = st := by
        unfold stepP
        rw [hrv, ← hst]
        split <;> split <;> omega
      have hpp : partP k a0 (a0 + st) = ((k : Int), a0, a0 + st) := by unfold partP; split <;> first | rfl | (exfalso; omega)
      refine ⟨st, a0 + st, u2, _, by rw [he]; exact ret_i (by omega), by omega, by omega, hC, by rw [List.length_append, List.length_singleton]; omega, hsp2, hr2, fun r hd => ?_, fun _ _ => by omega⟩
      refine DriveR.go (by omega) (by rw [hrv]; omega) ?_
      rw [hstp, Int.mul_one, hpp]
      exact hd
  · obtain ⟨st, hst⟩ : ∃ st, (if a0 < far - f then a0 else far - f) = st := ⟨_, rfl⟩
    have hrv : roomP N k a0 (-1) = a0 := by simp [roomP]
    have hb : 0 ≤ st ∧ st ≤ far - f ∧ st ≤ a0 ∧ (st < far - f → st = a0) := by rw [← hst]; split <;> omega
    refine (roll_2 E h hk (by omega) ⟨ha0, ha1⟩ (far - f) st (by omega) hst (by omega) hP).mono fun e w2 h' => ?_
    obtain ⟨he, u2, hC⟩ := h'
    have hsp2 : spotP N k (a0 + -st) (-1) = true := by
      simp only [spotP, inR, Bool.and_eq_true, decide_eq_true_eq, lenAt_nat N k hk]
      exact ⟨⟨⟨by omega, by omega⟩, rfl⟩, by omega, by omega⟩
    have hr2 : f + st < far → roomP N k (a0 + -st) (-1) = 0 := fun hlt => by
      have := hb.2.2.2 (by omega)
      simp only [roomP]
      rw [if_neg (by omega)]
      omega
    by_cases hz : st = 0
    · subst hz
      refine ⟨0, a0 + -0, u2, ps, by rw [he]; exact ret_i (by omega), by omega, by omega, by simpa using hC, by omega, hsp2, hr2, fun r hd => by simpa using hd, fun hlt hrm => ?_⟩
      have := hb.2.2.2 (by omega)
      exact absurd (by rw [hrv]; omega) hrm
    · rw [if_neg hz] at hC
      have hstp : stepP N far f k a0 (-1) = st := by
        unfold stepP
        rw [hrv, ← hst]
        split <;> split <;> omega
      have hpp : partP k a0 (a0 + -st) = ((k : Int), a0 + -st, a0) := by unfold partP; split <;> first | rfl | (exfalso; omega)
      refine ⟨st, a0 + -st, u2, _, by rw [he]; exact ret_i (by omega), by omega, by omega, hC, by rw [List.length_append, List.length_singleton]; omega, hsp2, hr2, fun r hd => ?_, fun _ _ => by omega⟩
      refine DriveR.go (by omega) (by rw [hrv]; omega) ?_
      have e : st * -1 = -st := by omega
      rw [hstp, e, hpp]
      exact hd
end Go.Proofs.Ytplnppdlabpodaa
