/- roll, at every right spot; a cursor's base moved on. Own work. -/
import Derived.Test.YteapmddadieohaaCuR2
import Derived.Test.YteapmddadieohaaCuH
import Derived.Test.YteapmddadieohaaDrD
import Derived.Test.YteapmddadieohaaMxAH
import Derived.Test.YteapmddadieohaaMxAI
namespace Go.Proofs.Yteapmddadieohaa
open Go.RowKit
set_option maxHeartbeats 2000000

theorem rebase {w W : World} {B m n : Nat} {G : Int × Int → Option (Int × Int × Int)} {sp sj sl : Value} {w0 w1 : World} {q a wy : Int} {ov : Nat} (E : Env w W B m n G) (h : CS W B m sp sj sl w0 q a wy ov (.slice none 0 0) []) (hb : Below w0.heap.size w0 w1) :
    Env w w1 B m n G ∧ CS w1 B m sp sj sl w1 q a wy ov (.slice none 0 0) [] := by
  have h1 := h.later hb
  refine ⟨⟨h1.below E, E.wB, cell_lt h1.c0, h1.seat E, E.mB⟩, ?_⟩
  exact ⟨h1.c0, h1.c1, h1.c2, h1.c3, h1.c4, h1.c5, h1.c6, h1.c7, h1.c8, h1.fz, World.ownsRow_nil _ _ _ _, rfl, rfl, rfl, Nat.le_refl _, fun _ _ _ => rfl, cell_lt h1.c0⟩

theorem right_len {N : Nt} (hr : netOk N = (0, 0)) {k : Nat} (hk : k < N.pcs.length) : 1 ≤ N.pcs[k].len ∧ N.pcs[k].len ≤ 10000000 := by
  have h2 := (right_facts hr).2.1 k hk
  rw [pcBad_eq hk, Bool.or_eq_false_iff] at h2
  have h3 := h2.1
  simp [Pc.ok, inR] at h3
  omega

/-- What roll does. -/
def RollQ (N : Nt) (xs : List Int) (W : World) (B m : Nat) (sp sj sl : Value) (far f q a wy : Int) (ov : Nat) (ps : List (Int × Int × Int)) (e : Ending) (w2 : World) : Prop :=
  ∃ (st a2 : Int) (u2 : Value) (ps2 : List (Int × Int × Int)), e = .returned (.int .i64 (far - (f + st))) ∧ 0 ≤ st ∧ f + st ≤ far ∧ CS W B m sp sj sl w2 q a2 wy ov u2 ps2 ∧ (ps2.length : Int) ≤ f + st ∧ spotP N q a2 wy = true ∧ (f + st < far → roomP N q a2 wy = 0) ∧
    (∀ r, DriveR N xs far (f + st) q a2 wy ov ps2 r → DriveR N xs far f q a wy ov ps r) ∧ (f < far → ¬ roomP N q a wy = 0 → 0 < st)

theorem roll_any {w W : World} {B m n : Nat} {G : Int × Int → Option (Int × Int × Int)} {a : Option Addr} {N : Nt} {cap : Nat} {sj sl : Value} {w0 : World} {q a0 wy : Int} {ov : Nat} {u : Value} {ps : List (Int × Int × Int)} (xs : List Int) (far f : Int) (E : Env w W B m n G) (h : CS W B m (.slice a N.pcs.length cap) sj sl w0 q a0 wy ov u ps) (hright : netOk N = (0, 0)) (hspot : spotP N q a0 wy = true) (hf : 0 ≤ f ∧ f ≤ far ∧ far ≤ 1000000) (hps : (ps.length : Int) ≤ f) (hP : PcsAt w a N.pcs) :
    Calls Try.prog 42 #[.pointer (some ⟨B, 0, none⟩), .int .i64 (far - f)] w0 fun e w2 => RollQ N xs W B m (.slice a N.pcs.length cap) sj sl far f q a0 wy ov ps e w2 := by
  have hsp := hspot
  simp only [spotP, inR, Bool.and_eq_true, decide_eq_true_eq, Bool.or_eq_true, beq_iff_eq] at hsp
  obtain ⟨⟨⟨hq0, hq1⟩, hwy⟩, ha0, ha1⟩ := hsp
  obtain ⟨k, rfl⟩ := Int.eq_ofNat_of_zero_le hq0
  have hk : k < N.pcs.length := by omega
  rw [lenAt_nat N k hk] at ha1
  have hlen := right_len hright hk
  rcases hwy with rfl | rfl
  · obtain ⟨st, hst⟩ : ∃ st, (if N.pcs[k].len - a0 < far - f then N.pcs[k].len - a0 else far - f) = st := ⟨_, rfl⟩
    have hrv : roomP N k a0 1 = N.pcs[k].len - a0 := by simp [roomP, lenAt_nat N k hk]
    have hb : 0 ≤ st ∧ st ≤ far - f ∧ st ≤ N.pcs[k].len - a0 ∧ (st < far - f → st = N.pcs[k].len - a0) := by rw [← hst]; split <;> omega
    refine (roll_1 E h hk (by omega) ⟨ha0, ha1⟩ (far - f) st (by omega) hst (by omega) hP).mono fun e w2 h' => ?_
    obtain ⟨he, u2, hC⟩ := h'
    have hsp2 : spotP N k (a0 + st) 1 = true := by
      simp only [spotP, inR, Bool.and_eq_true, decide_eq_true_eq, lenAt_nat N k hk]
      exact ⟨⟨⟨by omega, by omega⟩, rfl⟩, by omega, by omega⟩
    have hr2 : f + st < far → roomP N k (a0 + st) 1 = 0 := fun hlt => by
      have := hb.2.2.2 (by omega)
      simp only [roomP, lenAt_nat N k hk, if_true]
      omega
    by_cases hz : st = 0
    · subst hz
      refine ⟨0, a0 + 0, u2, ps, by rw [he]; exact ret_i (by omega), by omega, by omega, by simpa using hC, by omega, hsp2, hr2, fun r hd => by simpa using hd, fun hlt hrm => ?_⟩
      have := hb.2.2.2 (by omega)
      exact absurd (by rw [hrv]; omega) hrm
    · rw [if_neg hz] at hC
      have hstp : stepP N far f k a0 1 = st := by
        unfold stepP
        rw [hrv, ← hst]
        split <;> split <;> omega
      have hpp : partP k a0 (a0 + st) = ((k : Int), a0, a0 + st) := by unfold partP; split <;> first | rfl | (exfalso; omega)
      refine ⟨st, a0 + st, u2, _, by rw [he]; exact ret_i (by omega), by omega, by omega, hC, by rw [List.length_append, List.length_singleton]; omega, hsp2, hr2, fun r hd => ?_, fun _ _ => by omega⟩
      refine DriveR.go (by omega) (by rw [hrv]; omega) ?_
      rw [hstp, Int.mul_one, hpp]
      exact hd
  · obtain ⟨st, hst⟩ : ∃ st, (if a0 < far - f then a0 else far - f) = st := ⟨_, rfl⟩
    have hrv : roomP N k a0 (-1) = a0 := by simp [roomP]
    have hb : 0 ≤ st ∧ st ≤ far - f ∧ st ≤ a0 ∧ (st < far - f → st = a0) := by rw [← hst]; split <;> omega
    refine (roll_2 E h hk (by omega) ⟨ha0, ha1⟩ (far - f) st (by omega) hst (by omega) hP).mono fun e w2 h' => ?_
    obtain ⟨he, u2, hC⟩ := h'
    have hsp2 : spotP N k (a0 + -st) (-1) = true := by
      simp only [spotP, inR, Bool.and_eq_true, decide_eq_true_eq, lenAt_nat N k hk]
      exact ⟨⟨⟨by omega, by omega⟩, rfl⟩, by omega, by omega⟩
    have hr2 : f + st < far → roomP N k (a0 + -st) (-1) = 0 := fun hlt => by
      have := hb.2.2.2 (by omega)
      simp only [roomP]
      rw [if_neg (by omega)]
      omega
    by_cases hz : st = 0
    · subst hz
      refine ⟨0, a0 + -0, u2, ps, by rw [he]; exact ret_i (by omega), by omega, by omega, by simpa using hC, by omega, hsp2, hr2, fun r hd => by simpa using hd, fun hlt hrm => ?_⟩
      have := hb.2.2.2 (by omega)
      exact absurd (by rw [hrv]; omega) hrm
    · rw [if_neg hz] at hC
      have hstp : stepP N far f k a0 (-1) = st := by
        unfold stepP
        rw [hrv, ← hst]
        split <;> split <;> omega
      have hpp : partP k a0 (a0 + -st) = ((k : Int), a0 + -st, a0) := by unfold partP; split <;> first | rfl | (exfalso; omega)
      refine ⟨st, a0 + -st, u2, _, by rw [he]; exact ret_i (by omega), by omega, by omega, hC, by rw [List.length_append, List.length_singleton]; omega, hsp2, hr2, fun r hd => ?_, fun _ _ => by omega⟩
      refine DriveR.go (by omega) (by rw [hrv]; omega) ?_
      have e : st * -1 = -st := by omega
      rw [hstp, e, hpp]
      exact hd
end Go.Proofs.Yteapmddadieohaa

/- The law FnExactDrive's walk, over whatever impl.Drive answers as it should. Own work. -/
namespace Go.Proofs.Yteapmddadieohaa
open Go.RowKit
set_option maxHeartbeats 8000000

/-- impl.Drive answers as it should. -/
def DriveDone : Prop := ∀ (a a' z : Option Addr) (N : Nt) (cap cap' zc : Nat) (xs : List Int) (q at' way far : Int) (w : World), Wf3 q at' way → (Lit.int .i64 far).wf = true → (∀ x ∈ xs, (Lit.int .i64 x).wf = true) → N.pcs.length ≤ 1048576 → (∀ p ∈ N.pcs, p.name.size ≤ 1048576) → N.jts.length ≤ 1048576 → (∀ j ∈ N.jts, j.name.size ≤ 1048576 ∧ j.ends.length ≤ 1048576) → xs.length ≤ 1048576 → PcsAt w a N.pcs → JtsAt w a' N.jts → IntsAt w z xs →
    Calls Try.prog 10 #[.agg #[.slice a N.pcs.length cap, .slice a' N.jts.length cap'], .slice z xs.length zc, .agg #[.int .i64 q, .int .i64 at', .int .i64 way], .int .i64 far] w fun e w' =>
    ∃ r : DRes, DriveA N xs q at' way far r ∧ e = .returned (.agg #[.int .i64 r.code, .int .i64 r.far, .int .i64 r.joint, .int .i64 r.q, .int .i64 r.at', .int .i64 r.way]) ∧ Below w.heap.size w w'

theorem six_new (w : World) (T : TypeId) : Six (w.alloc (.cells #[.int .i64 0, .int .i64 0, .int .i64 0, .int .i64 0, .int .i64 0, .int .i64 0] T)) w.heap.size 0 0 0 0 0 0 :=
  ⟨by simp [go_sem], by simp [go_sem], by simp [go_sem], by simp [go_sem], by simp [go_sem], by simp [go_sem], by simp [go_sem], by simp [go_sem], by simp [go_sem], by simp [go_sem], by simp [go_sem], by simp [go_sem]⟩
abbrev In6 (w : World) (b : Nat) (r : DRes) : Prop := w.cell? ⟨b, 0, none⟩ = some (.int .i64 r.code) ∧ w.cell? ⟨b, 1, none⟩ = some (.int .i64 r.far) ∧ w.cell? ⟨b, 2, none⟩ = some (.int .i64 r.joint) ∧ w.cell? ⟨b, 3, none⟩ = some (.int .i64 r.q) ∧ w.cell? ⟨b, 4, none⟩ = some (.int .i64 r.at') ∧ w.cell? ⟨b, 5, none⟩ = some (.int .i64 r.way)
theorem In6.later {w w' : World} {b : Nat} {r : DRes} (h : In6 w b r) (hb : Below w.heap.size w w') : In6 w' b r := ⟨cell_later' hb h.1, cell_later' hb h.2.1, cell_later' hb h.2.2.1, cell_later' hb h.2.2.2.1, cell_later' hb h.2.2.2.2.1, cell_later' hb h.2.2.2.2.2⟩
abbrev set6 (w : World) (b : Nat) (r : DRes) : World := (((((w.setCell ⟨b, 0, none⟩ (.int .i64 r.code)).setCell ⟨b, 1, none⟩ (.int .i64 r.far)).setCell ⟨b, 2, none⟩ (.int .i64 r.joint)).setCell ⟨b, 3, none⟩ (.int .i64 r.q)).setCell ⟨b, 4, none⟩ (.int .i64 r.at')).setCell ⟨b, 5, none⟩ (.int .i64 r.way)
theorem In6.put {w : World} {b : Nat} (h : Six w b 0 0 0 0 0 0) (r : DRes) : In6 (set6 w b r) b r := by
  obtain ⟨h0, h1, h2, h3, h4, h5, _⟩ := h
  exact ⟨by simp [go_sem, h0], by simp [go_sem, h1], by simp [go_sem, h2], by simp [go_sem, h3], by simp [go_sem, h4], by simp [go_sem, h5]⟩
theorem set6_far {w : World} {b B i : Nat} {u : Value} (r : DRes) (h : w.cell? ⟨B, i, none⟩ = some u) (hB : B < b) : (set6 w b r).cell? ⟨B, i, none⟩ = some u := by
  have e : ∀ (W : World) (o : Nat) (v : Value), W.cell? ⟨B, i, none⟩ = some u → (W.setCell ⟨b, o, none⟩ v).cell? ⟨B, i, none⟩ = some u := fun W o v hu => by
    rw [World.cell?_setCell_far W ⟨b, o, none⟩ ⟨B, i, none⟩ v (by show b ≠ B; omega)]; exact hu
  exact e _ _ _ (e _ _ _ (e _ _ _ (e _ _ _ (e _ _ _ (e _ _ _ h)))))
theorem set6_below {w0 w : World} {B b : Nat} (r : DRes) (h : Below B w0 w) (hB : B ≤ b) : Below B w0 (set6 w b r) :=
  (((((h.setCell hB _).setCell hB _).setCell hB _).setCell hB _).setCell hB _).setCell hB _
theorem keepS6 {w w2 : World} {v0 v1 : Value} {q at' way : Int} {b : Nat} (h : LS w w w2 v0 v1 q at' way) (hb : w.heap.size + 1 < b) (r : DRes) : LS w w (set6 w2 b r) v0 v1 q at' way :=
  ⟨⟨set6_far r h.1.1 (by omega), set6_far r h.1.2.1 (by omega), set6_far r h.1.2.2.1 (by omega), set6_far r h.1.2.2.2.1 (by omega), set6_far r h.1.2.2.2.2 (by omega)⟩, set6_below r h.2.out (by omega)⟩
abbrev LB (w w8 w' : World) (v0 v1 : Value) (q at' way : Int) (b : Nat) (u0 u1 : Value) : Prop := LS2 w w w' v0 v1 q at' way b u0 u1 ∧ Hid (Below w8.heap.size w8 w')
theorem keepLB {w w1 w2 w3 : World} {v0 v1 u0 u1 : Value} {q at' way : Int} {b : Nat} (hb : Below w2.heap.size w2 w3) (h : LB w w1 w2 v0 v1 q at' way b u0 u1) : LB w w1 w3 v0 v1 q at' way b u0 u1 :=
  ⟨keepL2 hb h.1, h.2.out.trans (hb.mono h.2.out.size)⟩
theorem keepLB6 {w w1 w2 : World} {v0 v1 u0 u1 : Value} {q at' way : Int} {b c : Nat} (h : LB w w1 w2 v0 v1 q at' way c u0 u1) (hb : w1.heap.size ≤ b) (hw : w.heap.size + 1 < w1.heap.size) (hc : c < w1.heap.size) (r : DRes) : LB w w1 (set6 w2 b r) v0 v1 q at' way c u0 u1 :=
  ⟨⟨keepS6 h.1.1 (by omega) r, set6_far r h.1.2.1 (by omega), set6_far r h.1.2.2 (by omega)⟩, set6_below r h.2.out hb⟩
theorem Six.drew {w : World} {B : Nat} {x0 x1 x2 x3 x4 x5 : Int} (h : Six w B x0 x1 x2 x3 x4 x5) : Six w.drew B x0 x1 x2 x3 x4 x5 :=
  ⟨h.c0, h.c1, h.c2, h.c3, h.c4, h.c5, h.f0, h.f1, h.f2, h.f3, h.f4, h.f5⟩
theorem six_d {w w1 : World} {T : TypeId} (hb : Below (w.alloc (.cells #[.int .i64 0, .int .i64 0, .int .i64 0, .int .i64 0, .int .i64 0, .int .i64 0] T)).drew.heap.size (w.alloc (.cells #[.int .i64 0, .int .i64 0, .int .i64 0, .int .i64 0, .int .i64 0, .int .i64 0] T)).drew w1) : Six w1 w.heap.size 0 0 0 0 0 0 :=
  Six.later (w := (w.alloc (.cells #[.int .i64 0, .int .i64 0, .int .i64 0, .int .i64 0, .int .i64 0, .int .i64 0] T)).drew) (six_new w T).drew hb
end Go.Proofs.Yteapmddadieohaa
