/- run. Own work. -/
import Derived.Test.YteapmddadieohaaMxAV
namespace Go.Proofs.Yteapmddadieohaa
open Go.RowKit
set_option maxHeartbeats 1600000

theorem six_of_block {w w' : World} {b : Nat} {x0 x1 x2 x3 x4 x5 : Int} (h : Six w b x0 x1 x2 x3 x4 x5) (e : w'.heap[b]? = w.heap[b]?) : Six w' b x0 x1 x2 x3 x4 x5 := by
  have c : ∀ i, w'.cell? ⟨b, i, none⟩ = w.cell? ⟨b, i, none⟩ := fun i => World.cell?_of_block (a := ⟨b, i, none⟩) e
  have f : ∀ i, w'.frozen? ⟨b, i, none⟩ = w.frozen? ⟨b, i, none⟩ := fun i => World.frozen?_of_block (a := ⟨b, i, none⟩) e
  exact ⟨(c 0).trans h.c0, (c 1).trans h.c1, (c 2).trans h.c2, (c 3).trans h.c3, (c 4).trans h.c4, (c 5).trans h.c5, (f 0).trans h.f0, (f 1).trans h.f1, (f 2).trans h.f2, (f 3).trans h.f3, (f 4).trans h.f4, (f 5).trans h.f5⟩

/-- What run tells, and what it leaves. -/
def RunQ (N : Nt) (xs : List Int) (w : World) (B : Nat) (far q a wy : Int) (e : Ending) (w2 : World) : Prop :=
  ∃ r : DRes, DriveR N xs far 0 q a wy 0 [] r ∧ r.ps.length ≤ 1000000 ∧ e = .returned (.agg #[.int .i64 r.code, .int .i64 r.far, .int .i64 r.joint, .int .i64 r.q, .int .i64 r.at', .int .i64 r.way]) ∧ Below w.heap.size w w2 ∧
    ∃ u, w2.cell? ⟨B, 8, none⟩ = some u ∧ w2.ownsRow w.heap.size 79 3 u r.ps.length (partCells r.ps)

theorem run_out {w W w' : World} {B m n rb : Nat} {G : Int × Int → Option (Int × Int × Int)} {sp sj sl : Value} {q a wy : Int} {ov : Nat} {u : Value} {ps : List (Int × Int × Int)} (E : Env w W B m n G) (h : CS W B m sp sj sl w' q a wy ov u ps) (hB : B < rb) (hrb : rb < W.heap.size) (r : DRes) (hr : r.ps = ps) :
    Below w.heap.size w (set6 w' rb r) ∧ ∃ u, (set6 w' rb r).cell? ⟨B, 8, none⟩ = some u ∧ (set6 w' rb r).ownsRow w.heap.size 79 3 u r.ps.length (partCells r.ps) := by
  have hwB := E.wB
  subst hr
  refine ⟨set6_below r (h.below E) (by omega), u, set6_far r h.c8 hB, ?_⟩
  exact owns_low (ownsRow_setCell_below (ownsRow_setCell_below (ownsRow_setCell_below (ownsRow_setCell_below (ownsRow_setCell_below (ownsRow_setCell_below h.row hrb _) hrb _) hrb _) hrb _) hrb _) hrb _) E.below.size

theorem run_any {w W : World} {B m n : Nat} {a a' zb : Option Addr} {N : Nt} {cap cap' zc : Nat} {xs : List Int} {w0 : World} {q a0 wy : Int} (far : Int) (E : Env w W B m n (seatTo N.jts N.jts.length)) (h : CS W B m (.slice a N.pcs.length cap) (.slice a' N.jts.length cap') (.slice zb xs.length zc) w0 q a0 wy 0 (.slice none 0 0) [])
    (hright : netOk N = (0, 0)) (hlies : liesP N.jts xs = true) (hspot : spotP N q a0 wy = true) (hfar : 0 ≤ far ∧ far ≤ 1000000) (hn : N.pcs.length ≤ 1048576) (hP : PcsAt w a N.pcs) (hJ : JtsAt w a' N.jts) (hZ : IntsAt w zb xs) :
    Calls Try.prog 31 #[.pointer (some ⟨B, 0, none⟩), .int .i64 far] w0 fun e w2 => RunQ N xs w B far q a0 wy e w2 := by
  have hA : Below w0.heap.size w0 (w0.alloc (.cells #[.int .i64 0, .int .i64 0, .int .i64 0, .int .i64 0, .int .i64 0, .int .i64 0] 35)) := (Below.refl _ _).alloc (Nat.le_refl _) _
  obtain ⟨E1, C1⟩ := rebase E h hA
  have hBr := cell_lt h.c0
  have hS6 := six_new w0 35
  have hrb : w0.heap.size < (w0.alloc (.cells #[.int .i64 0, .int .i64 0, .int .i64 0, .int .i64 0, .int .i64 0, .int .i64 0] 35)).heap.size := by simp
  have HP := hide hP
  have HJ := hide hJ
  have HZ := hide hZ
  have HRT := hide hright
  have HLI := hide hlies
  have HSP := hide hspot
  have HN := hide hn
  obtain ⟨hfar0, hfar1⟩ := hfar
  clear h E hA hP hJ hZ hright hlies hspot hn
  go_enter Try.func31, Try.ntmps31
  go_upto_region 1 with fail
  generalize w0.alloc (.cells #[.int .i64 0, .int .i64 0, .int .i64 0, .int .i64 0, .int .i64 0, .int .i64 0] 35) = wR at *
  generalize w0.heap.size = rb at *
  have HE := hide E1
  have HC := hide C1
  have H6 := hide hS6
  clear E1 C1 hS6
  go_wp2_with fail
  have hroll := roll_any xs far 0 HE.out HC.out HRT.out HSP.out ⟨by omega, hfar0, hfar1⟩ (by simp) HP.out
  rw [Int.sub_zero] at hroll
  refine hroll.mono ?_
  rintro e w1 ⟨st, a2, u2, ps2, rfl, h1, h2, hC, hpl, hsp, hrm, hcont, _⟩
  have HC1 := hide hC
  have HSP1 := hide hsp
  have HRM1 := hide hrm
  have HCT1 := hide hcont
  clear hC hsp hrm hcont hroll HC
  go_wp2_with fail
  go_loopw [5, 6, 7] (fun s5 _ _ wr => ∃ (f q1 a1 wy1 : Int) (ov : Nat) (u : Value) (ps : List (Int × Int × Int)), s5 = .int .i64 (far - f) ∧ 0 ≤ f ∧ f ≤ far ∧ ov ≤ 1000 ∧ (ps.length : Int) ≤ f ∧ Hid (spotP N q1 a1 wy1 = true) ∧ Hid (f < far → roomP N q1 a1 wy1 = 0) ∧ Hid (CS wR B m (.slice a N.pcs.length cap) (.slice a' N.jts.length cap') (.slice zb xs.length zc) wr q1 a1 wy1 ov u ps) ∧ Hid (∀ r, DriveR N xs far f q1 a1 wy1 ov ps r → DriveR N xs far 0 q a0 wy 0 [] r)) (fun s5 _ _ _ => (intOf s5).toNat)
  case atStart => exact ⟨0 + st, q, a2, wy, 0, u2, ps2, by rw [Int.zero_add], by omega, by omega, by omega, by omega, HSP1.out, HRM1.out, HC1.out, HCT1.out⟩
  case round =>
    obtain ⟨f, q1, a1, wy1, ov, u, ps, rfl, hf0, hf1, hov, hpl1, HS, HR, HCC, HCT⟩ := hrel
    by_cases hlt : f < far
    · have qlt : (0 : Int) < far - f := by omega
      have hfe : far - (far - f) = f := by omega
      go_wp2_with fail
      refine (cross_any HE.out HCC.out HRT.out HLI.out HS.out hov HN.out HP.out HJ.out HZ.out).mono ?_
      rintro e w2 ⟨j, i, hj, hx, hat, hcase⟩
      have HAT := hide hat
      have hroom := HR.out hlt
      have HRO := hide hroom
      clear hat hroom HCC
      rcases hcase with ⟨hc, rfl, hC⟩ | ⟨hc, ho, rfl, hC⟩ | ⟨hc, ho, rfl, hC⟩
      · have HV := hide (HCT.out _ (DriveR.stop (ps := ps) (ov := ov) hj hx hlt HRO.out HAT.out hc))
        have qc : ((overP N.jts[j] (headP q1 wy1) i xs[j]).2 != 0) = true := by rw [bne_iff_ne]; exact hc
        generalize (overP N.jts[j] (headP q1 wy1) i xs[j]).2 = cd at HV qc ⊢
        obtain ⟨r0, r1, r2, r3, r4, r5, g0, g1, g2, g3, g4, g5⟩ := six_of_block H6.out (hC.fr rb hrb (by omega))
        have c0 := hC.c0
        have c1 := hC.c1
        have c2 := hC.c2
        have HX := hide hC
        clear hc hC
        go_wp2_with fail
        refine bodyPost_ret (v := .agg #[.int .i64 cd, .int .i64 f, .int .i64 j, .int .i64 q1, .int .i64 a1, .int .i64 wy1]) (by simp [results, Try.results31, go_sem, r0, r1, r2, r3, r4, r5]) rfl ?_
        have hO := run_out HE.out HX.out hBr hrb ⟨cd, f, j, q1, a1, wy1, ps⟩ rfl
        have hps : ps.length ≤ 1000000 := by omega
        exact ⟨⟨cd, f, j, q1, a1, wy1, ps⟩, HV.out, hps, rfl, hO⟩
      · have HV := hide (HCT.out _ (DriveR.many (ps := ps) (ov := ov) hj hx hlt HRO.out HAT.out hc ho))
        obtain ⟨r0, r1, r2, r3, r4, r5, g0, g1, g2, g3, g4, g5⟩ := six_of_block H6.out (hC.fr rb hrb (by omega))
        have c0 := hC.c0
        have c1 := hC.c1
        have c2 := hC.c2
        have HX := hide hC
        clear hc ho hC
        go_wp2_with fail
        refine bodyPost_ret (v := .agg #[.int .i64 5, .int .i64 f, .int .i64 j, .int .i64 q1, .int .i64 a1, .int .i64 wy1]) (by simp [results, Try.results31, go_sem, r0, r1, r2, r3, r4, r5]) rfl ?_
        have hO := run_out HE.out HX.out hBr hrb ⟨5, f, j, q1, a1, wy1, ps⟩ rfl
        have hps : ps.length ≤ 1000000 := by omega
        exact ⟨⟨5, f, j, q1, a1, wy1, ps⟩, HV.out, hps, rfl, hO⟩
      · have hek := overP_ok HRT.out HLI.out hj hx HAT.out hc
        have HES := hide (enterP_ok HRT.out hek)
        have HNX := hide (fun r hd => HCT.out r (DriveR.over (ps := ps) (ov := ov) hj hx hlt HRO.out HAT.out hc ho hd))
        have hrn : ¬ roomP N (enterP N (overP N.jts[j] (headP q1 wy1) i xs[j]).1).1 (enterP N (overP N.jts[j] (headP q1 wy1) i xs[j]).1).2.1 (enterP N (overP N.jts[j] (headP q1 wy1) i xs[j]).1).2.2 = 0 := by
          generalize (overP N.jts[j] (headP q1 wy1) i xs[j]).1 = oe at hek
          obtain ⟨o1, o2⟩ := oe
          simp only [endOk, inR, Bool.and_eq_true, decide_eq_true_eq] at hek
          obtain ⟨⟨he10, he11⟩, he20, he21⟩ := hek
          obtain ⟨ke, rfl⟩ := Int.eq_ofNat_of_zero_le he10
          have hke : ke < N.pcs.length := by omega
          have := right_len HRT.out hke
          unfold enterP roomP
          split <;> simp [lenAt_nat N ke hke] <;> omega
        have HC2 := hide hC
        have hov2 : ov + 1 ≤ 1000 := by omega
        generalize enterP N (overP N.jts[j] (headP q1 wy1) i xs[j]).1 = en at HES HNX hrn HC2
        obtain ⟨q2, a2', wy2⟩ := en
        dsimp only at HES HNX hrn HC2
        have HRN := hide hrn
        clear hek hc ho hC hrn HCT HR HS
        go_wp2_with fail
        refine (roll_any xs far f HE.out HC2.out HRT.out HES.out ⟨hf0, hf1, hfar1⟩ hpl1 HP.out).mono ?_
        rintro e w3 ⟨st3, a3, u3, ps3, rfl, k1, k2, hC, hpl, hsp, hrm, hcont, hpos⟩
        have hst3 := hpos hlt HRN.out
        have HC3 := hide hC
        have HSP3 := hide hsp
        have HRM3 := hide hrm
        have HCT3 := hide (fun r hd => HNX.out r (hcont r hd))
        clear hC hsp hrm hcont hpos HNX
        go_wp2_with fail
        refine ⟨⟨f + st3, q2, a3, wy2, ov + 1, u3, ps3, rfl, by omega, by omega, hov2, hpl, HSP3.out, HRM3.out, HC3.out, HCT3.out⟩, ?_⟩
        simp only [intOf]
        omega
    · have qlt : decide ((0 : Int) < far - f) = false := by rw [decide_eq_false_iff_not]; omega
      have hff : f = far := by omega
      have HV := hide (HCT.out _ (DriveR.done (N := N) (xs := xs) (q := q1) (a := a1) (wy := wy1) (ov := ov) (ps := ps) hlt))
      subst hff
      have hC := HCC.out
      obtain ⟨r0, r1, r2, r3, r4, r5, g0, g1, g2, g3, g4, g5⟩ := six_of_block H6.out (hC.fr rb hrb (by omega))
      have c0 := hC.c0
      have c1 := hC.c1
      have c2 := hC.c2
      clear hC
      go_wp2_with fail
      refine bodyPost_ret (v := .agg #[.int .i64 0, .int .i64 f, .int .i64 (-1), .int .i64 q1, .int .i64 a1, .int .i64 wy1]) (by simp [results, Try.results31, go_sem, r0, r1, r2, r3, r4, r5]) rfl ?_
      have hO := run_out HE.out HCC.out hBr hrb ⟨0, f, -1, q1, a1, wy1, ps⟩ rfl
      have hps : ps.length ≤ 1000000 := by omega
      exact ⟨⟨0, f, -1, q1, a1, wy1, ps⟩, HV.out, hps, rfl, hO⟩
end Go.Proofs.Yteapmddadieohaa
