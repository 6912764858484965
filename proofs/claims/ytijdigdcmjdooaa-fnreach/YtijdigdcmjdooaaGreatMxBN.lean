/- roll, at every right spot; a cursor's base moved on. Own work. -/
import Derived.Test.YtijdigdcmjdooaaGreatCuR2
import Derived.Test.YtijdigdcmjdooaaGreatMxAY
import Derived.Test.YtijdigdcmjdooaaGreatMxAU
import Derived.Test.YtijdigdcmjdooaaGreatMxAD
import Derived.Test.YtijdigdcmjdooaaGreatMxAB
import Derived.Test.YtijdigdcmjdooaaGreatMxAL
namespace Go.Proofs.YtijdigdcmjdooaaGreat
open Go.RowKit
set_option maxHeartbeats 2000000

theorem rebase {w W : World} {B m n : Nat} {G : Int × Int → Option (Int × Int × Int)} {sp sj sl : Value} {w0 w1 : World} {q a wy : Int} {ov : Nat} (E : Env w W B m n G) (h : CS W B m sp sj sl w0 q a wy ov (.slice none 0 0) []) (hb : Below w0.heap.size w0 w1) :
    Env w w1 B m n G ∧ CS w1 B m sp sj sl w1 q a wy ov (.slice none 0 0) [] := by
  have h1 := h.later hb
  refine ⟨⟨h1.below E, E.wB, cell_lt h1.c0, h1.seat E, E.mB⟩, ?_⟩
  exact ⟨h1.c0, h1.c1, h1.c2, h1.c3, h1.c4, h1.c5, h1.c6, h1.c7, h1.c8, h1.fz, World.ownsRow_nil _ _ _ _, rfl, rfl, rfl, Nat.le_refl _, fun _ _ _ => rfl, cell_lt h1.c0⟩

theorem right_len {N : Nt} (hr : netOk N = (0, 0)) {k : Nat} (hk : k < N.pcs.length) : 1 ≤ N.pcs[k].len ∧ N.pcs[k].len ≤ 10000000 := by
  have h2 := (right_facts hr).2.1 k hk
  rw [pcBad_eq hk, Bool.or_eq_false_iff] at h2
  have h3 := h2.1
  simp [Pc.ok, inR] at h3
  omega

/-- What roll does. -/
def RollQ (N : Nt) (xs : List Int) (W : World) (B m : Nat) (sp sj sl : Value) (far f q a wy : Int) (ov : Nat) (ps : List (Int × Int × Int)) (e : Ending) (w2 : World) : Prop :=
  ∃ (st a2 : Int) (u2 : Value) (ps2 : List (Int × Int × Int)), e = .returned (.int .i64 (far - (f + st))) ∧ 0 ≤ st ∧ f + st ≤ far ∧ CS W B m sp sj sl w2 q a2 wy ov u2 ps2 ∧ (ps2.length : Int) ≤ f + st ∧ spotP N q a2 wy = true ∧ (f + st < far → roomP N q a2 wy = 0) ∧
    (∀ r, DriveR N xs far (f + st) q a2 wy ov ps2 r → DriveR N xs far f q a wy ov ps r) ∧ (f < far → ¬ roomP N q a wy = 0 → 0 < st)

theorem roll_any {w W : World} {B m n : Nat} {G : Int × Int → Option (Int × Int × Int)} {a : Option Addr} {N : Nt} {cap : Nat} {sj sl : Value} {w0 : World} {q a0 wy : Int} {ov : Nat} {u : Value} {ps : List (Int × Int × Int)} (xs : List Int) (far f : Int) (E : Env w W B m n G) (h : CS W B m (.slice a N.pcs.length cap) sj sl w0 q a0 wy ov u ps) (hright : netOk N = (0, 0)) (hspot : spotP N q a0 wy = true) (hf : 0 ≤ f ∧ f ≤ far ∧ far ≤ 1000000) (hps : (ps.length : Int) ≤ f) (hP : PcsAt w a N.pcs) :
    Calls Tryz.prog 105 #[.pointer (some ⟨B, 0, none⟩), .int .i64 (far - f)] w0 fun e w2 => RollQ N xs W B m (.slice a N.pcs.length cap) sj sl far f q a0 wy ov ps e w2 := by
  have hsp := hspot
  simp only [spotP, inR, Bool.and_eq_true, decide_eq_true_eq, Bool.or_eq_true, beq_iff_eq] at hsp
  obtain ⟨⟨⟨hq0, hq1⟩, hwy⟩, ha0, ha1⟩ := hsp
  obtain ⟨k, rfl⟩ := Int.eq_ofNat_of_zero_le hq0
  have hk : k < N.pcs.length := by omega
  rw [lenAt_nat N k hk] at ha1
  have hlen := right_len hright hk
  rcases hwy with rfl | rfl
  · obtain ⟨st, hst⟩ : ∃ st, (if N.pcs[k].len - a0 < far - f then N.pcs[k].len - a0 else far - f) = st := ⟨_, rfl⟩
    have hrv : roomP N k a0 1 = N.pcs[k].len - a0 := by simp [roomP, lenAt_nat N k hk]
    have hb : 0 ≤ st ∧ st ≤ far - f ∧ st ≤ N.pcs[k].len - a0 ∧ (st < far - f → st = N.pcs[k].len - a0) := by rw [← hst]; split <;> omega
    refine (roll_1 E h hk (by omega) ⟨ha0, ha1⟩ (far - f) st (by omega) hst (by omega) hP).mono fun e w2 h' => ?_
    obtain ⟨he, u2, hC⟩ := h'
    have hsp2 : spotP N k (a0 + st) 1 = true := by
      simp only [spotP, inR, Bool.and_eq_true, decide_eq_true_eq, lenAt_nat N k hk]
      exact ⟨⟨⟨by omega, by omega⟩, rfl⟩, by omega, by omega⟩
    have hr2 : f + st < far → roomP N k (a0 + st) 1 = 0 := fun hlt => by
      have := hb.2.2.2 (by omega)
      simp only [roomP, lenAt_nat N k hk, if_true]
      omega
    by_cases hz : st = 0
    · subst hz
      refine ⟨0, a0 + 0, u2, ps, by rw [he]; exact ret_i (by omega), by omega, by omega, by simpa using hC, by omega, hsp2, hr2, fun r hd => by simpa using hd, fun hlt hrm => ?_⟩
      have := hb.2.2.2 (by omega)
      exact absurd (by rw [hrv]; omega) hrm
    · rw [if_neg hz] at hC
      have hstp : stepP N far f k a0 1 = st := by
        unfold stepP
        rw [hrv, ← hst]
        split <;> split <;> omega
      have hpp : partP k a0 (a0 + st) = ((k : Int), a0, a0 + st) := by unfold partP; split <;> first | rfl | (exfalso; omega)
      refine ⟨st, a0 + st, u2, _, by rw [he]; exact ret_i (by omega), by omega, by omega, hC, by rw [List.length_append, List.length_singleton]; omega, hsp2, hr2, fun r hd => ?_, fun _ _ => by omega⟩
      refine DriveR.go (by omega) (by rw [hrv]; omega) ?_
      rw [hstp, Int.mul_one, hpp]
      exact hd
  · obtain ⟨st, hst⟩ : ∃ st, (if a0 < far - f then a0 else far - f) = st := ⟨_, rfl⟩
    have hrv : roomP N k a0 (-1) = a0 := by simp [roomP]
    have hb : 0 ≤ st ∧ st ≤ far - f ∧ st ≤ a0 ∧ (st < far - f → st = a0) := by rw [← hst]; split <;> omega
    refine (roll_2 E h hk (by omega) ⟨ha0, ha1⟩ (far - f) st (by omega) hst (by omega) hP).mono fun e w2 h' => ?_
    obtain ⟨he, u2, hC⟩ := h'
    have hsp2 : spotP N k (a0 + -st) (-1) = true := by
      simp only [spotP, inR, Bool.and_eq_true, decide_eq_true_eq, lenAt_nat N k hk]
      exact ⟨⟨⟨by omega, by omega⟩, rfl⟩, by omega, by omega⟩
    have hr2 : f + st < far → roomP N k (a0 + -st) (-1) = 0 := fun hlt => by
      have := hb.2.2.2 (by omega)
      simp only [roomP]
      rw [if_neg (by omega)]
      omega
    by_cases hz : st = 0
    · subst hz
      refine ⟨0, a0 + -0, u2, ps, by rw [he]; exact ret_i (by omega), by omega, by omega, by simpa using hC, by omega, hsp2, hr2, fun r hd => by simpa using hd, fun hlt hrm => ?_⟩
      have := hb.2.2.2 (by omega)
      exact absurd (by rw [hrv]; omega) hrm
    · rw [if_neg hz] at hC
      have hstp : stepP N far f k a0 (-1) = st := by
        unfold stepP
        rw [hrv, ← hst]
        split <;> split <;> omega
      have hpp : partP k a0 (a0 + -st) = ((k : Int), a0 + -st, a0) := by unfold partP; split <;> first | rfl | (exfalso; omega)
      refine ⟨st, a0 + -st, u2, _, by rw [he]; exact ret_i (by omega), by omega, by omega, hC, by rw [List.length_append, List.length_singleton]; omega, hsp2, hr2, fun r hd => ?_, fun _ _ => by omega⟩
      refine DriveR.go (by omega) (by rw [hrv]; omega) ?_
      have e : st * -1 = -st := by omega
      rw [hstp, e, hpp]
      exact hd
end Go.Proofs.YtijdigdcmjdooaaGreat

/- The law FnExactDrive's walk, over whatever impl.Drive answers as it should. Own work. -/
namespace Go.Proofs.YtijdigdcmjdooaaGreat
open Go.RowKit
set_option maxHeartbeats 8000000

/-- impl.Drive answers as it should. -/
def DriveDone : Prop := ∀ (a a' z : Option Addr) (N : Nt) (cap cap' zc : Nat) (xs : List Int) (q at' way far : Int) (w : World), Wf3 q at' way → (Lit.int .i64 far).wf = true → (∀ x ∈ xs, (Lit.int .i64 x).wf = true) → N.pcs.length ≤ 1048576 → (∀ p ∈ N.pcs, p.name.size ≤ 1048576) → N.jts.length ≤ 1048576 → (∀ j ∈ N.jts, j.name.size ≤ 1048576 ∧ j.ends.length ≤ 1048576) → xs.length ≤ 1048576 → PcsAt w a N.pcs → JtsAt w a' N.jts → IntsAt w z xs →
    Calls Tryz.prog 13 #[.agg #[.slice a N.pcs.length cap, .slice a' N.jts.length cap'], .slice z xs.length zc, .agg #[.int .i64 q, .int .i64 at', .int .i64 way], .int .i64 far] w fun e w' =>
    ∃ r : DRes, DriveA N xs q at' way far r ∧ e = .returned (.agg #[.int .i64 r.code, .int .i64 r.far, .int .i64 r.joint, .int .i64 r.q, .int .i64 r.at', .int .i64 r.way]) ∧ Below w.heap.size w w'

theorem six_new (w : World) (T : TypeId) : Six (w.alloc (.cells #[.int .i64 0, .int .i64 0, .int .i64 0, .int .i64 0, .int .i64 0, .int .i64 0] T)) w.heap.size 0 0 0 0 0 0 :=
  ⟨by simp [go_sem], by simp [go_sem], by simp [go_sem], by simp [go_sem], by simp [go_sem], by simp [go_sem], by simp [go_sem], by simp [go_sem], by simp [go_sem], by simp [go_sem], by simp [go_sem], by simp [go_sem]⟩
abbrev In6 (w : World) (b : Nat) (r : DRes) : Prop := w.cell? ⟨b, 0, none⟩ = some (.int .i64 r.code) ∧ w.cell? ⟨b, 1, none⟩ = some (.int .i64 r.far) ∧ w.cell? ⟨b, 2, none⟩ = some (.int .i64 r.joint) ∧ w.cell? ⟨b, 3, none⟩ = some (.int .i64 r.q) ∧ w.cell? ⟨b, 4, none⟩ = some (.int .i64 r.at') ∧ w.cell? ⟨b, 5, none⟩ = some (.int .i64 r.way)
theorem In6.later {w w' : World} {b : Nat} {r : DRes} (h : In6 w b r) (hb : Below w.heap.size w w') : In6 w' b r := ⟨cell_later' hb h.1, cell_later' hb h.2.1, cell_later' hb h.2.2.1, cell_later' hb h.2.2.2.1, cell_later' hb h.2.2.2.2.1, cell_later' hb h.2.2.2.2.2⟩
abbrev set6 (w : World) (b : Nat) (r : DRes) : World := (((((w.setCell ⟨b, 0, none⟩ (.int .i64 r.code)).setCell ⟨b, 1, none⟩ (.int .i64 r.far)).setCell ⟨b, 2, none⟩ (.int .i64 r.joint)).setCell ⟨b, 3, none⟩ (.int .i64 r.q)).setCell ⟨b, 4, none⟩ (.int .i64 r.at')).setCell ⟨b, 5, none⟩ (.int .i64 r.way)
theorem In6.put {w : World} {b : Nat} (h : Six w b 0 0 0 0 0 0) (r : DRes) : In6 (set6 w b r) b r := by
  obtain ⟨h0, h1, h2, h3, h4, h5, _⟩ := h
  exact ⟨by simp [go_sem, h0], by simp [go_sem, h1], by simp [go_sem, h2], by simp [go_sem, h3], by simp [go_sem, h4], by simp [go_sem, h5]⟩
theorem set6_far {w : World} {b B i : Nat} {u : Value} (r : DRes) (h : w.cell? ⟨B, i, none⟩ = some u) (hB : B < b) : (set6 w b r).cell? ⟨B, i, none⟩ = some u := by
  have e : ∀ (W : World) (o : Nat) (v : Value), W.cell? ⟨B, i, none⟩ = some u → (W.setCell ⟨b, o, none⟩ v).cell? ⟨B, i, none⟩ = some u := fun W o v hu => by
    rw [World.cell?_setCell_far W ⟨b, o, none⟩ ⟨B, i, none⟩ v (by show b ≠ B; omega)]; exact hu
  exact e _ _ _ (e _ _ _ (e _ _ _ (e _ _ _ (e _ _ _ (e _ _ _ h)))))
theorem set6_below {w0 w : World} {B b : Nat} (r : DRes) (h : Below B w0 w) (hB : B ≤ b) : Below B w0 (set6 w b r) :=
  (((((h.setCell hB _).setCell hB _).setCell hB _).setCell hB _).setCell hB _).setCell hB _
theorem keepS6 {w w2 : World} {v0 v1 : Value} {q at' way : Int} {b : Nat} (h : LS w w w2 v0 v1 q at' way) (hb : w.heap.size + 1 < b) (r : DRes) : LS w w (set6 w2 b r) v0 v1 q at' way :=
  ⟨⟨set6_far r h.1.1 (by omega), set6_far r h.1.2.1 (by omega), set6_far r h.1.2.2.1 (by omega), set6_far r h.1.2.2.2.1 (by omega), set6_far r h.1.2.2.2.2 (by omega)⟩, set6_below r h.2.out (by omega)⟩
abbrev LB (w w8 w' : World) (v0 v1 : Value) (q at' way : Int) (b : Nat) (u0 u1 : Value) : Prop := LS2 w w w' v0 v1 q at' way b u0 u1 ∧ Hid (Below w8.heap.size w8 w')
theorem keepLB {w w1 w2 w3 : World} {v0 v1 u0 u1 : Value} {q at' way : Int} {b : Nat} (hb : Below w2.heap.size w2 w3) (h : LB w w1 w2 v0 v1 q at' way b u0 u1) : LB w w1 w3 v0 v1 q at' way b u0 u1 :=
  ⟨keepL2 hb h.1, h.2.out.trans (hb.mono h.2.out.size)⟩
theorem keepLB6 {w w1 w2 : World} {v0 v1 u0 u1 : Value} {q at' way : Int} {b c : Nat} (h : LB w w1 w2 v0 v1 q at' way c u0 u1) (hb : w1.heap.size ≤ b) (hw : w.heap.size + 1 < w1.heap.size) (hc : c < w1.heap.size) (r : DRes) : LB w w1 (set6 w2 b r) v0 v1 q at' way c u0 u1 :=
  ⟨⟨keepS6 h.1.1 (by omega) r, set6_far r h.1.2.1 (by omega), set6_far r h.1.2.2 (by omega)⟩, set6_below r h.2.out hb⟩
theorem Six.drew {w : World} {B : Nat} {x0 x1 x2 x3 x4 x5 : Int} (h : Six w B x0 x1 x2 x3 x4 x5) : Six w.drew B x0 x1 x2 x3 x4 x5 :=
  ⟨h.c0, h.c1, h.c2, h.c3, h.c4, h.c5, h.f0, h.f1, h.f2, h.f3, h.f4, h.f5⟩
theorem six_d {w w1 : World} {T : TypeId} (hb : Below (w.alloc (.cells #[.int .i64 0, .int .i64 0, .int .i64 0, .int .i64 0, .int .i64 0, .int .i64 0] T)).drew.heap.size (w.alloc (.cells #[.int .i64 0, .int .i64 0, .int .i64 0, .int .i64 0, .int .i64 0, .int .i64 0] T)).drew w1) : Six w1 w.heap.size 0 0 0 0 0 0 :=
  Six.later (w := (w.alloc (.cells #[.int .i64 0, .int .i64 0, .int .i64 0, .int .i64 0, .int .i64 0, .int .i64 0] T)).drew) (six_new w T).drew hb
end Go.Proofs.YtijdigdcmjdooaaGreat

/- run. Own work. -/
namespace Go.Proofs.YtijdigdcmjdooaaGreat
open Go.RowKit
set_option maxHeartbeats 1600000

theorem six_of_block {w w' : World} {b : Nat} {x0 x1 x2 x3 x4 x5 : Int} (h : Six w b x0 x1 x2 x3 x4 x5) (e : w'.heap[b]? = w.heap[b]?) : Six w' b x0 x1 x2 x3 x4 x5 := by
  have c : ∀ i, w'.cell? ⟨b, i, none⟩ = w.cell? ⟨b, i, none⟩ := fun i => World.cell?_of_block (a := ⟨b, i, none⟩) e
  have f : ∀ i, w'.frozen? ⟨b, i, none⟩ = w.frozen? ⟨b, i, none⟩ := fun i => World.frozen?_of_block (a := ⟨b, i, none⟩) e
  exact ⟨(c 0).trans h.c0, (c 1).trans h.c1, (c 2).trans h.c2, (c 3).trans h.c3, (c 4).trans h.c4, (c 5).trans h.c5, (f 0).trans h.f0, (f 1).trans h.f1, (f 2).trans h.f2, (f 3).trans h.f3, (f 4).trans h.f4, (f 5).trans h.f5⟩

/-- What run tells, and what it leaves. -/
def RunQ (N : Nt) (xs : List Int) (w : World) (B : Nat) (far q a wy : Int) (e : Ending) (w2 : World) : Prop :=
  ∃ r : DRes, DriveR N xs far 0 q a wy 0 [] r ∧ r.ps.length ≤ 1000000 ∧ e = .returned (.agg #[.int .i64 r.code, .int .i64 r.far, .int .i64 r.joint, .int .i64 r.q, .int .i64 r.at', .int .i64 r.way]) ∧ Below w.heap.size w w2 ∧
    ∃ u, w2.cell? ⟨B, 8, none⟩ = some u ∧ w2.ownsRow w.heap.size 214 3 u r.ps.length (partCells r.ps)

theorem run_out {w W w' : World} {B m n rb : Nat} {G : Int × Int → Option (Int × Int × Int)} {sp sj sl : Value} {q a wy : Int} {ov : Nat} {u : Value} {ps : List (Int × Int × Int)} (E : Env w W B m n G) (h : CS W B m sp sj sl w' q a wy ov u ps) (hB : B < rb) (hrb : rb < W.heap.size) (r : DRes) (hr : r.ps = ps) :
    Below w.heap.size w (set6 w' rb r) ∧ ∃ u, (set6 w' rb r).cell? ⟨B, 8, none⟩ = some u ∧ (set6 w' rb r).ownsRow w.heap.size 214 3 u r.ps.length (partCells r.ps) := by
  have hwB := E.wB
  subst hr
  refine ⟨set6_below r (h.below E) (by omega), u, set6_far r h.c8 hB, ?_⟩
  exact owns_low (ownsRow_setCell_below (ownsRow_setCell_below (ownsRow_setCell_below (ownsRow_setCell_below (ownsRow_setCell_below (ownsRow_setCell_below h.row hrb _) hrb _) hrb _) hrb _) hrb _) hrb _) E.below.size

theorem run_any {w W : World} {B m n : Nat} {a a' zb : Option Addr} {N : Nt} {cap cap' zc : Nat} {xs : List Int} {w0 : World} {q a0 wy : Int} (far : Int) (E : Env w W B m n (seatTo N.jts N.jts.length)) (h : CS W B m (.slice a N.pcs.length cap) (.slice a' N.jts.length cap') (.slice zb xs.length zc) w0 q a0 wy 0 (.slice none 0 0) [])
    (hright : netOk N = (0, 0)) (hlies : liesP N.jts xs = true) (hspot : spotP N q a0 wy = true) (hfar : 0 ≤ far ∧ far ≤ 1000000) (hn : N.pcs.length ≤ 1048576) (hP : PcsAt w a N.pcs) (hJ : JtsAt w a' N.jts) (hZ : IntsAt w zb xs) :
    Calls Tryz.prog 72 #[.pointer (some ⟨B, 0, none⟩), .int .i64 far] w0 fun e w2 => RunQ N xs w B far q a0 wy e w2 := by
  have hA : Below w0.heap.size w0 (w0.alloc (.cells #[.int .i64 0, .int .i64 0, .int .i64 0, .int .i64 0, .int .i64 0, .int .i64 0] 42)) := (Below.refl _ _).alloc (Nat.le_refl _) _
  obtain ⟨E1, C1⟩ := rebase E h hA
  have hBr := cell_lt h.c0
  have hS6 := six_new w0 42
  have hrb : w0.heap.size < (w0.alloc (.cells #[.int .i64 0, .int .i64 0, .int .i64 0, .int .i64 0, .int .i64 0, .int .i64 0] 42)).heap.size := by simp
  have HP := hide hP
  have HJ := hide hJ
  have HZ := hide hZ
  have HRT := hide hright
  have HLI := hide hlies
  have HSP := hide hspot
  have HN := hide hn
  obtain ⟨hfar0, hfar1⟩ := hfar
  clear h E hA hP hJ hZ hright hlies hspot hn
  go_enter Tryz.func72, Tryz.ntmps72
  go_upto_region 1 with fail
  generalize w0.alloc (.cells #[.int .i64 0, .int .i64 0, .int .i64 0, .int .i64 0, .int .i64 0, .int .i64 0] 42) = wR at *
  generalize w0.heap.size = rb at *
  have HE := hide E1
  have HC := hide C1
  have H6 := hide hS6
  clear E1 C1 hS6
  go_wp2_with fail
  have hroll := roll_any xs far 0 HE.out HC.out HRT.out HSP.out ⟨by omega, hfar0, hfar1⟩ (by simp) HP.out
  rw [Int.sub_zero] at hroll
  refine hroll.mono ?_
  rintro e w1 ⟨st, a2, u2, ps2, rfl, h1, h2, hC, hpl, hsp, hrm, hcont, _⟩
  have HC1 := hide hC
  have HSP1 := hide hsp
  have HRM1 := hide hrm
  have HCT1 := hide hcont
  clear hC hsp hrm hcont hroll HC
  go_wp2_with fail
  go_loopw [5, 6, 7] (fun s5 _ _ wr => ∃ (f q1 a1 wy1 : Int) (ov : Nat) (u : Value) (ps : List (Int × Int × Int)), s5 = .int .i64 (far - f) ∧ 0 ≤ f ∧ f ≤ far ∧ ov ≤ 1000 ∧ (ps.length : Int) ≤ f ∧ Hid (spotP N q1 a1 wy1 = true) ∧ Hid (f < far → roomP N q1 a1 wy1 = 0) ∧ Hid (CS wR B m (.slice a N.pcs.length cap) (.slice a' N.jts.length cap') (.slice zb xs.length zc) wr q1 a1 wy1 ov u ps) ∧ Hid (∀ r, DriveR N xs far f q1 a1 wy1 ov ps r → DriveR N xs far 0 q a0 wy 0 [] r)) (fun s5 _ _ _ => (intOf s5).toNat)
  case atStart => exact ⟨0 + st, q, a2, wy, 0, u2, ps2, by rw [Int.zero_add], by omega, by omega, by omega, by omega, HSP1.out, HRM1.out, HC1.out, HCT1.out⟩
  case round =>
    obtain ⟨f, q1, a1, wy1, ov, u, ps, rfl, hf0, hf1, hov, hpl1, HS, HR, HCC, HCT⟩ := hrel
    by_cases hlt : f < far
    · have qlt : (0 : Int) < far - f := by omega
      have hfe : far - (far - f) = f := by omega
      go_wp2_with fail
      refine (cross_any HE.out HCC.out HRT.out HLI.out HS.out hov HN.out HP.out HJ.out HZ.out).mono ?_
      rintro e w2 ⟨j, i, hj, hx, hat, hcase⟩
      have HAT := hide hat
      have hroom := HR.out hlt
      have HRO := hide hroom
      clear hat hroom HCC
      rcases hcase with ⟨hc, rfl, hC⟩ | ⟨hc, ho, rfl, hC⟩ | ⟨hc, ho, rfl, hC⟩
      · have HV := hide (HCT.out _ (DriveR.stop (ps := ps) (ov := ov) hj hx hlt HRO.out HAT.out hc))
        have qc : ((overP N.jts[j] (headP q1 wy1) i xs[j]).2 != 0) = true := by rw [bne_iff_ne]; exact hc
        generalize (overP N.jts[j] (headP q1 wy1) i xs[j]).2 = cd at HV qc ⊢
        obtain ⟨r0, r1, r2, r3, r4, r5, g0, g1, g2, g3, g4, g5⟩ := six_of_block H6.out (hC.fr rb hrb (by omega))
        have c0 := hC.c0
        have c1 := hC.c1
        have c2 := hC.c2
        have HX := hide hC
        clear hc hC
        go_wp2_with fail
        refine bodyPost_ret (v := .agg #[.int .i64 cd, .int .i64 f, .int .i64 j, .int .i64 q1, .int .i64 a1, .int .i64 wy1]) (by simp [results, Tryz.results72, go_sem, r0, r1, r2, r3, r4, r5]) rfl ?_
        have hO := run_out HE.out HX.out hBr hrb ⟨cd, f, j, q1, a1, wy1, ps⟩ rfl
        have hps : ps.length ≤ 1000000 := by omega
        exact ⟨⟨cd, f, j, q1, a1, wy1, ps⟩, HV.out, hps, rfl, hO⟩
      · have HV := hide (HCT.out _ (DriveR.many (ps := ps) (ov := ov) hj hx hlt HRO.out HAT.out hc ho))
        obtain ⟨r0, r1, r2, r3, r4, r5, g0, g1, g2, g3, g4, g5⟩ := six_of_block H6.out (hC.fr rb hrb (by omega))
        have c0 := hC.c0
        have c1 := hC.c1
        have c2 := hC.c2
        have HX := hide hC
        clear hc ho hC
        go_wp2_with fail
        refine bodyPost_ret (v := .agg #[.int .i64 5, .int .i64 f, .int .i64 j, .int .i64 q1, .int .i64 a1, .int .i64 wy1]) (by simp [results, Tryz.results72, go_sem, r0, r1, r2, r3, r4, r5]) rfl ?_
        have hO := run_out HE.out HX.out hBr hrb ⟨5, f, j, q1, a1, wy1, ps⟩ rfl
        have hps : ps.length ≤ 1000000 := by omega
        exact ⟨⟨5, f, j, q1, a1, wy1, ps⟩, HV.out, hps, rfl, hO⟩
      · have hek := overP_ok HRT.out HLI.out hj hx HAT.out hc
        have HES := hide (enterP_ok HRT.out hek)
        have HNX := hide (fun r hd => HCT.out r (DriveR.over (ps := ps) (ov := ov) hj hx hlt HRO.out HAT.out hc ho hd))
        have hrn : ¬ roomP N (enterP N (overP N.jts[j] (headP q1 wy1) i xs[j]).1).1 (enterP N (overP N.jts[j] (headP q1 wy1) i xs[j]).1).2.1 (enterP N (overP N.jts[j] (headP q1 wy1) i xs[j]).1).2.2 = 0 := by
          generalize (overP N.jts[j] (headP q1 wy1) i xs[j]).1 = oe at hek
          obtain ⟨o1, o2⟩ := oe
          simp only [endOk, inR, Bool.and_eq_true, decide_eq_true_eq] at hek
          obtain ⟨⟨he10, he11⟩, he20, he21⟩ := hek
          obtain ⟨ke, rfl⟩ := Int.eq_ofNat_of_zero_le he10
          have hke : ke < N.pcs.length := by omega
          have := right_len HRT.out hke
          unfold enterP roomP
          split <;> simp [lenAt_nat N ke hke] <;> omega
        have HC2 := hide hC
        have hov2 : ov + 1 ≤ 1000 := by omega
        generalize enterP N (overP N.jts[j] (headP q1 wy1) i xs[j]).1 = en at HES HNX hrn HC2
        obtain ⟨q2, a2', wy2⟩ := en
        dsimp only at HES HNX hrn HC2
        have HRN := hide hrn
        clear hek hc ho hC hrn HCT HR HS
        go_wp2_with fail
        refine (roll_any xs far f HE.out HC2.out HRT.out HES.out ⟨hf0, hf1, hfar1⟩ hpl1 HP.out).mono ?_
        rintro e w3 ⟨st3, a3, u3, ps3, rfl, k1, k2, hC, hpl, hsp, hrm, hcont, hpos⟩
        have hst3 := hpos hlt HRN.out
        have HC3 := hide hC
        have HSP3 := hide hsp
        have HRM3 := hide hrm
        have HCT3 := hide (fun r hd => HNX.out r (hcont r hd))
        clear hC hsp hrm hcont hpos HNX
        go_wp2_with fail
        refine ⟨⟨f + st3, q2, a3, wy2, ov + 1, u3, ps3, rfl, by omega, by omega, hov2, hpl, HSP3.out, HRM3.out, HC3.out, HCT3.out⟩, ?_⟩
        simp only [intOf]
        omega
    · have qlt : decide ((0 : Int) < far - f) = false := by rw [decide_eq_false_iff_not]; omega
      have hff : f = far := by omega
      have HV := hide (HCT.out _ (DriveR.done (N := N) (xs := xs) (q := q1) (a := a1) (wy := wy1) (ov := ov) (ps := ps) hlt))
      subst hff
      have hC := HCC.out
      obtain ⟨r0, r1, r2, r3, r4, r5, g0, g1, g2, g3, g4, g5⟩ := six_of_block H6.out (hC.fr rb hrb (by omega))
      have c0 := hC.c0
      have c1 := hC.c1
      have c2 := hC.c2
      clear hC
      go_wp2_with fail
      refine bodyPost_ret (v := .agg #[.int .i64 0, .int .i64 f, .int .i64 (-1), .int .i64 q1, .int .i64 a1, .int .i64 wy1]) (by simp [results, Tryz.results72, go_sem, r0, r1, r2, r3, r4, r5]) rfl ?_
      have hO := run_out HE.out HCC.out hBr hrb ⟨0, f, -1, q1, a1, wy1, ps⟩ rfl
      have hps : ps.length ≤ 1000000 := by omega
      exact ⟨⟨0, f, -1, q1, a1, wy1, ps⟩, HV.out, hps, rfl, hO⟩
end Go.Proofs.YtijdigdcmjdooaaGreat

/- liesOk; a new cursor. Own work. -/
namespace Go.Proofs.YtijdigdcmjdooaaGreat
open Go.RowKit
set_option maxHeartbeats 2000000

theorem lieOk_eq (j : Jt) (x : Int) : lieOk j x = inR x 0 (if j.kind = 3 then 2 else 0) := by
  unfold lieOk inR
  by_cases h : j.kind = 3
  · simp [h]
  · rw [if_neg h, Bool.eq_iff_iff]
    simp [h]
    omega

theorem liesOk_any (a' z : Option Addr) (cap' zc : Nat) (js : List Jt) (xs : List Int) (w : World) (hn : js.length ≤ 1048576) (hj : JtsAt w a' js) (hz : IntsAt w z xs) :
    Calls Tryz.prog 71 #[.slice a' js.length cap', .slice z xs.length zc] w fun e w' => e = .returned (.bool (liesP js xs)) ∧ Below w.heap.size w w' := by
  have HJ := hide hj
  have HZ := hide hz
  clear hj hz
  generalize hRes : liesP js xs = Res
  have HRES := hide hRes
  clear hRes
  by_cases hlen : xs.length = js.length
  · have hb : ((xs.length : Int) != (js.length : Int)) = false := by rw [hlen]; simp
    have HL := hide hlen
    have hle : js.length ≤ xs.length := by omega
    have hle2 : xs.length ≤ js.length := by omega
    clear hlen
    go_enter Tryz.func71, Tryz.ntmps71
    go_wp2_with fail
    go_loopw [5, 6, 7, 15] (fun _ _ _ i wr => ∃ (k : Nat), k ≤ js.length ∧ i = .int .i64 k ∧ Hid (∀ u (hj : u < js.length) (hx : u < xs.length), u < k → lieOk js[u] xs[u] = true) ∧ Below w.heap.size w wr) (fun _ _ _ i _ => js.length - (intOf i).toNat)
    case atStart => exact ⟨0, Nat.zero_le _, rfl, fun u hj hx hu => by omega, Below.refl _ _⟩
    case round =>
      obtain ⟨k, hk, rfl, hall, hbr⟩ := hrel
      by_cases hlt : k < js.length
      · have hkx : k < xs.length := by omega
        obtain ⟨b, off, rfl, c0⟩ := (IntsAt.later HZ.out hbr) k hkx
        obtain ⟨b2, off2, ea, ec, rfl, d0, d1, d2, _⟩ := (JtsAt.later HJ.out hbr) k hlt
        have hi : (k : Int) < (xs.length : Int) := by omega
        have hblt := cell_lt c0
        have hblt2 := cell_lt d0
        have hbA := hbr.alloc hbr.size (.cells #[.int .i64 js[k].kind, .string js[k].name, .slice ea js[k].ends.length ec] 97)
        have HLE := hide (lieOk_eq js[k] xs[k])
        have HBAD := hide (fun h => liesP_bad (js := js) (xs := xs) hlt hkx h)
        by_cases h3 : js[k].kind = 3
        · have q3 : (js[k].kind == 3) = true := by rw [beq_iff_eq]; exact h3
          have HL3 := hide (show lieOk js[k] xs[k] = inR xs[k] 0 2 by rw [HLE.out, if_pos h3])
          clear h3
          cases hr : inR xs[k] 0 2
          · have HR := hide hr
            clear hr
            go_wp2_with fail
            refine (inRange_b HR.out _).mono ?_
            rintro e w1 ⟨rfl, rfl⟩
            go_wp2_with fail
            go_ret
            exact ⟨ret_b (by rw [← HRES.out, HBAD.out (by rw [HL3.out, HR.out])]), hbA⟩
          · have HR := hide hr
            clear hr
            go_wp2_with fail
            refine (inRange_b HR.out _).mono ?_
            rintro e w1 ⟨rfl, rfl⟩
            go_wp2_with fail
            refine ⟨⟨k + 1, by omega, by go_num, ?_, hbA⟩, by simp [intOf]; omega⟩
            intro u hj hx hu
            by_cases e : u = k
            · subst e; rw [HL3.out, HR.out]
            · exact hall.out u hj hx (by omega)
        · have q3 : (js[k].kind == 3) = false := by rw [beq_eq_false_iff_ne]; exact h3
          have HL3 := hide (show lieOk js[k] xs[k] = inR xs[k] 0 0 by rw [HLE.out, if_neg h3])
          clear h3
          cases hr : inR xs[k] 0 0
          · have HR := hide hr
            clear hr
            go_wp2_with fail
            refine (inRange_b HR.out _).mono ?_
            rintro e w1 ⟨rfl, rfl⟩
            go_wp2_with fail
            go_ret
            exact ⟨ret_b (by rw [← HRES.out, HBAD.out (by rw [HL3.out, HR.out])]), hbA⟩
          · have HR := hide hr
            clear hr
            go_wp2_with fail
            refine (inRange_b HR.out _).mono ?_
            rintro e w1 ⟨rfl, rfl⟩
            go_wp2_with fail
            refine ⟨⟨k + 1, by omega, by go_num, ?_, hbA⟩, by simp [intOf]; omega⟩
            intro u hj hx hu
            by_cases e : u = k
            · subst e; rw [HL3.out, HR.out]
            · exact hall.out u hj hx (by omega)
      · have HG := hide (liesP_good HL.out (fun u hj hx => hall.out u hj hx (by omega)))
        go_wp2_with fail
        go_ret
        exact ⟨ret_b (by rw [← HRES.out, HG.out]), hbr⟩
  · have hb : ((xs.length : Int) != (js.length : Int)) = true := by rw [bne_iff_ne]; omega
    have HB := hide (show liesP js xs = false by simp [liesP, hlen])
    clear hlen
    go_enter Tryz.func71, Tryz.ntmps71
    go_wp2_with fail
    go_ret
    exact ⟨ret_b (by rw [← HRES.out, HB.out]), Below.refl _ _⟩

/-- The cells of a new cursor that holds nothing yet. -/
abbrev zero9 : Array Value := #[.int .i64 0, .int .i64 0, .int .i64 0, .slice none 0 0, .slice none 0 0, .slice none 0 0, .map none, .int .i64 0, .slice none 0 0]
abbrev Zero9 (w : World) (b : Nat) : Prop := (w.cell? ⟨b, 0, none⟩ = some (.int .i64 0) ∧ w.cell? ⟨b, 1, none⟩ = some (.int .i64 0) ∧ w.cell? ⟨b, 2, none⟩ = some (.int .i64 0) ∧ w.cell? ⟨b, 3, none⟩ = some (.slice none 0 0) ∧ w.cell? ⟨b, 4, none⟩ = some (.slice none 0 0) ∧ w.cell? ⟨b, 5, none⟩ = some (.slice none 0 0) ∧ w.cell? ⟨b, 6, none⟩ = some (.map none) ∧ w.cell? ⟨b, 7, none⟩ = some (.int .i64 0) ∧ w.cell? ⟨b, 8, none⟩ = some (.slice none 0 0)) ∧
  (w.frozen? ⟨b, 0, none⟩ = false ∧ w.frozen? ⟨b, 1, none⟩ = false ∧ w.frozen? ⟨b, 2, none⟩ = false ∧ w.frozen? ⟨b, 3, none⟩ = false ∧ w.frozen? ⟨b, 4, none⟩ = false ∧ w.frozen? ⟨b, 5, none⟩ = false ∧ w.frozen? ⟨b, 6, none⟩ = false ∧ w.frozen? ⟨b, 7, none⟩ = false ∧ w.frozen? ⟨b, 8, none⟩ = false)
theorem Zero9.later {w w1 : World} {T : TypeId} (hb : Below (w.alloc (.cells zero9 T)).heap.size (w.alloc (.cells zero9 T)) w1) : Zero9 w1 w.heap.size ∧ ∀ i, w1.frozen? ⟨w.heap.size, i, none⟩ = false :=
  ⟨⟨⟨box_cell hb 0 _ rfl, box_cell hb 1 _ rfl, box_cell hb 2 _ rfl, box_cell hb 3 _ rfl, box_cell hb 4 _ rfl, box_cell hb 5 _ rfl, box_cell hb 6 _ rfl, box_cell hb 7 _ rfl, box_cell hb 8 _ rfl⟩, box_frozen hb 0, box_frozen hb 1, box_frozen hb 2, box_frozen hb 3, box_frozen hb 4, box_frozen hb 5, box_frozen hb 6, box_frozen hb 7, box_frozen hb 8⟩, fun i => box_frozen hb i⟩

abbrev set9 (w : World) (b : Nat) (q a wy : Int) (sp sj sl : Value) (m : Nat) : World :=
  ((((((((w.setCell ⟨b, 0, none⟩ (.int .i64 q)).setCell ⟨b, 1, none⟩ (.int .i64 a)).setCell ⟨b, 2, none⟩ (.int .i64 wy)).setCell ⟨b, 3, none⟩ sp).setCell ⟨b, 4, none⟩ sj).setCell ⟨b, 5, none⟩ sl).setCell ⟨b, 6, none⟩ (.map (some m))).setCell ⟨b, 7, none⟩ (.int .i64 0)).setCell ⟨b, 8, none⟩ (.slice none 0 0)
theorem set9_below {w0 w : World} {b : Nat} {B : Nat} (h : Below B w0 w) (hB : B ≤ b) (q a wy : Int) (sp sj sl : Value) (m : Nat) : Below B w0 (set9 w b q a wy sp sj sl m) :=
  ((((((((h.setCell hB _).setCell hB _).setCell hB _).setCell hB _).setCell hB _).setCell hB _).setCell hB _).setCell hB _).setCell hB _
theorem cs_put {w : World} {b : Nat} (h : Zero9 w b) (hf : ∀ i, w.frozen? ⟨b, i, none⟩ = false) (q a wy : Int) (sp sj sl : Value) (m : Nat) : CS (set9 w b q a wy sp sj sl m) b m sp sj sl (set9 w b q a wy sp sj sl m) q a wy 0 (.slice none 0 0) [] := by
  obtain ⟨⟨h0, h1, h2, h3, h4, h5, h6, h7, h8⟩, _⟩ := h
  have hl := cell_lt h0
  exact ⟨by simp [go_sem, h0], by simp [go_sem, h1], by simp [go_sem, h2], by simp [go_sem, h3], by simp [go_sem, h4], by simp [go_sem, h5], by simp [go_sem, h6], by simp [go_sem, h7], by simp [go_sem, h8], fun i => by simp only [World.frozen?_setCell]; exact hf i, World.ownsRow_nil _ _ _ _, rfl, rfl, rfl, Nat.le_refl _, fun _ _ _ => rfl, by simpa using hl⟩
theorem cs_new (w : World) (q a wy : Int) (sp sj sl : Value) (m : Nat) (T : TypeId) : CS (w.alloc (.cells #[.int .i64 q, .int .i64 a, .int .i64 wy, sp, sj, sl, .map (some m), .int .i64 0, .slice none 0 0] T)) w.heap.size m sp sj sl (w.alloc (.cells #[.int .i64 q, .int .i64 a, .int .i64 wy, sp, sj, sl, .map (some m), .int .i64 0, .slice none 0 0] T)) q a wy 0 (.slice none 0 0) [] :=
  ⟨new_cell w _ _ 0 _ rfl, new_cell w _ _ 1 _ rfl, new_cell w _ _ 2 _ rfl, new_cell w _ _ 3 _ rfl, new_cell w _ _ 4 _ rfl, new_cell w _ _ 5 _ rfl, new_cell w _ _ 6 _ rfl, new_cell w _ _ 7 _ rfl, new_cell w _ _ 8 _ rfl, fun i => box_frozen (Below.refl _ _) i, World.ownsRow_nil _ _ _ _, rfl, rfl, rfl, Nat.le_refl _, fun _ _ _ => rfl, by simp⟩
end Go.Proofs.YtijdigdcmjdooaaGreat
