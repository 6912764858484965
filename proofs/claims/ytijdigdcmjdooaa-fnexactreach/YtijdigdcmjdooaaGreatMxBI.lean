/- The law FnExactReach's walk. Own work. -/
import Derived.Test.YtijdigdcmjdooaaGreatMxAI
import Derived.Test.YtijdigdcmjdooaaGreatMxBH
import Derived.Test.YtijdigdcmjdooaaGreatRcS
import Derived.Test.YtijdigdcmjdooaaGreatMxAH
import Derived.Test.YtijdigdcmjdooaaGreatMxAB
import Derived.Test.YtijdigdcmjdooaaGreatMxAN
import Derived.Test.YtijdigdcmjdooaaGreatMxAE
import Derived.Test.YtijdigdcmjdooaaGreatRows
import Derived.ProofKit
import Derived.OpenShut
import Derived.ChangeOld
namespace Go.Proofs.YtijdigdcmjdooaaGreat
open Go.RowKit
set_option maxHeartbeats 8000000

theorem keep88 {w w1 w2 w3 : World} {v0 v1 u0 u1 : Value} {q at' way : Int} {b : Nat} (hb : Below w2.heap.size w2 w3) (h : LS2 w w w2 v0 v1 q at' way b u0 u1 ∧ Hid (Below w1.heap.size w1 w2)) : LS2 w w w3 v0 v1 q at' way b u0 u1 ∧ Hid (Below w1.heap.size w1 w3) :=
  ⟨keepL2 hb h.1, h.2.out.trans (hb.mono h.2.out.size)⟩
theorem keep19 {w w1 w2 w3 : World} {v0 v1 : Value} {q at' way : Int} (hb : Below w2.heap.size w2 w3) (h : LS w w w2 v0 v1 q at' way ∧ Hid (Below w1.heap.size w1 w2)) : LS w w w3 v0 v1 q at' way ∧ Hid (Below w1.heap.size w1 w3) :=
  ⟨keepL hb h.1, h.2.out.trans (hb.mono h.2.out.size)⟩
theorem goR_few {N : Nt} : ∀ (k : Nat) (out : List (Int × Int × Int)) (line : List Dv) (r : List (Int × Int × Int)), out.length ≤ 200 → goR N k out line = some r → r.length ≤ 200
  | k, out, [], r, ho, h => by
    rw [goR_nil] at h
    obtain rfl := Option.some.inj h
    exact ho
  | 0, out, c :: line, r, ho, h => by cases h
  | k + 1, out, c :: line, r, ho, h => by
    rw [goR] at h
    split at h
    · cases h
    · rename_i hm
      simp only [muchR, Bool.or_eq_true, decide_eq_true_eq, not_or] at hm
      exact goR_few k _ _ r (by omega) h
theorem reachP_few (N : Nt) (s : Int × Int × Int) (far : Int) : (reachP N s far).length ≤ 200 := by
  unfold reachP
  split
  · unfold reachR
    split
    · simp
    · rename_i out h
      rw [List.length_mergeSort]
      refine goR_few _ _ _ out ?_ h
      unfold stepR
      split
      · have h1 := (addO_len ([] : List (Int × Int × Int)) (toldR (s, far))).2
        dsimp only
        rw [List.length_nil] at h1
        omega
      · simp
  · simp

theorem fnReach_walk (a a' : Option Addr) (N : Nt) (cap cap' : Nat) (q at' way far : Int) (w : World) (hwf : Wf3 q at' way) (hp : PcsAt w a N.pcs) (hj : JtsAt w a' N.jts) (hn : N.pcs.length ≤ maxLen ∧ ∀ p ∈ N.pcs, p.name.size ≤ maxLen) (hl : N.jts.length ≤ maxLen ∧ ∀ j ∈ N.jts, j.name.size ≤ maxLen ∧ j.ends.length ≤ maxLen) :
    Calls Tryz.prog 4 #[.agg #[.slice a N.pcs.length cap, .slice a' N.jts.length cap'], .agg #[.int .i64 q, .int .i64 at', .int .i64 way], .int .i64 far] w fun e w' =>
    e = .returned (.bool true) ∧ Below w.heap.size w w' := by
  have HP := hide hp
  have HJ := hide hj
  have HN := hide hn
  have HL := hide hl
  have HWF := hide hwf
  clear hp hj hn hl hwf
  have hbW : Below w.heap.size w ((w.alloc (.cells #[.slice a N.pcs.length cap, .slice a' N.jts.length cap'] 48)).alloc (.cells #[.int .i64 q, .int .i64 at', .int .i64 way] 49)) := ((Below.refl _ _).alloc (Nat.le_refl _) _).alloc (by simp) _
  go_enter Tryz.func4, Tryz.ntmps4
  go_wp2_with fail
  refine (szNet_any a a' N cap cap' 1048576 _ HN.out.1 (HP.out.later hbW) HN.out.2 HL.out.1 (HJ.out.later hbW) HL.out.2 (by omega) (by omega)).mono ?_
  rintro e w1 ⟨r, rfl, hr1, hr2, hr3, hb1⟩
  obtain ⟨hc, hf⟩ := bcell hb1
  have hB1 := hbW.trans (hb1.mono hbW.size)
  have t0 : w1.cell? ⟨w.heap.size, 0, none⟩ = some (.slice a N.pcs.length cap) := by rw [hc _ _ (by simp; omega)]; simp [go_sem]
  have t1 : w1.cell? ⟨w.heap.size, 1, none⟩ = some (.slice a' N.jts.length cap') := by rw [hc _ _ (by simp; omega)]; simp [go_sem]
  have e0 : w1.cell? ⟨w.heap.size + 1, 0, none⟩ = some (.int .i64 q) := by rw [hc _ _ (by simp)]; simp [go_sem]
  have e1 : w1.cell? ⟨w.heap.size + 1, 1, none⟩ = some (.int .i64 at') := by rw [hc _ _ (by simp)]; simp [go_sem]
  have e2 : w1.cell? ⟨w.heap.size + 1, 2, none⟩ = some (.int .i64 way) := by rw [hc _ _ (by simp)]; simp [go_sem]
  have HLS1 : Hid (LS w w w1 (.slice a N.pcs.length cap) (.slice a' N.jts.length cap') q at' way) := ⟨⟨t0, t1, e0, e1, e2⟩, hB1⟩
  have HR := hide hr3
  clear hr3 hb1 hc hf
  by_cases hr : r < 0
  · go_wp2_with fail
    go_ret
    exact ⟨rfl, hB1⟩
  have hrr : decide (r < 0) = false := by rw [decide_eq_false_iff_not]; exact hr
  obtain ⟨⟨hn, hns⟩, hl, hls⟩ := HR.out (by omega)
  have HNS := hide hns
  have HLS := hide hls
  have HLM := hide (fun j (hj : j ∈ N.jts) => (HLS.out j hj).2)
  clear hns hls hbW
  go_upto_region 5 with fail
  go_region_held3 (fun w' => LS w w w' (.slice a N.pcs.length cap) (.slice a' N.jts.length cap') q at' way)
    (first
      | (exact keepL ((Below.refl w1.heap.size w1).drew) HLS1.out)
      | (exact keepL (by assumption) (by assumption)))
    (first
      | (go_at_call 15; refine (toNet_any a a' N cap cap' _ hn (HP.out.later (heldB (by assumption))) hl HLM.out (HJ.out.later (heldB (by assumption)))).mono ?_; rintro e w2 ⟨b1, b2, rfl, hO, hbN⟩)
      | (go_at_call 16; refine (toSpot_any _ _ _ _).mono ?_; rintro e w4 ⟨rfl, hbE⟩)
      | (go_at_call 9; refine (specReach_any _ _ N _ _ _ _ _ _ _ hn HNS.out hl HLS.out (hO.later hbE).2.2.2.1 (hO.later hbE).2.2.2.2.at).mono ?_; rintro e w5 ⟨v, rfl, how, hbJ⟩))
  rename_i hH
  have HLS5 := hide hH
  have hps := reachP_few N (q, at', way) far
  generalize hq : reachP N (q, at', way) far = ps at how hps
  have HQ := hide hq
  replace hps : ps.length ≤ 1048576 := by omega
  obtain ⟨z, zc, rfl, hNP⟩ := newSpots how
  have HZP := hide hNP.1
  have HZB := hide (show ∀ b off, z = some ⟨b, off, none⟩ → ps.length = 0 ∨ b < w5.heap.size from fun b off h => (hNP.lt b off h).imp id (fun h => h.2))
  have hw5 : w.heap.size + 1 < w5.heap.size := cell_lt hH.1.2.2.1
  clear hH how hNP hbJ hbE hbN hO hq
  have hB5 := heldB HLS5.out
  obtain ⟨t0, t1, e0, e1, e2⟩ := HLS5.out.1
  clear HLS1
  go_wp2_with fail
  refine (toNet_any a a' N cap cap' _ hn (HP.out.later hB5) hl HLM.out (HJ.out.later hB5)).mono ?_
  rintro e w6 ⟨c1, c2, rfl, hO, hb6⟩
  have hc1 := hO.1
  have hc2 := hO.2.1
  have HRJ := hide hO.2.2.2.2.rows
  have h56 := hb6.size
  have hA := (Below.refl w6.heap.size w6).alloc (Nat.le_refl _) (.cells #[.slice (some ⟨c1, 0, none⟩) N.pcs.length N.pcs.length, .slice (some ⟨c2, 0, none⟩) N.jts.length N.jts.length] 26)
  have v0 := new_cell w6 #[.slice (some ⟨c1, 0, none⟩) N.pcs.length N.pcs.length, .slice (some ⟨c2, 0, none⟩) N.jts.length N.jts.length] 26 0 _ rfl
  have v1 := new_cell w6 #[.slice (some ⟨c1, 0, none⟩) N.pcs.length N.pcs.length, .slice (some ⟨c2, 0, none⟩) N.jts.length N.jts.length] 26 1 _ rfl
  have hs7 : w6.heap.size < (w6.alloc (.cells #[.slice (some ⟨c1, 0, none⟩) N.pcs.length N.pcs.length, .slice (some ⟨c2, 0, none⟩) N.jts.length N.jts.length] 26)).heap.size := by simp
  have HLS8 := hide (keepL (chn hb6 hA) HLS5.out)
  have HO8 := hide (hO.later hA)
  have HRJ := hide (HRJ.out.later hA)
  have HZP := hide (HZP.out.later (chn hb6 hA))
  clear hO hA hb6 HLS5 t0 t1 e0 e1 e2 hB5
  go_upto_region 7 with fail
  generalize w6.alloc (.cells #[.slice (some ⟨c1, 0, none⟩) N.pcs.length N.pcs.length, .slice (some ⟨c2, 0, none⟩) N.jts.length N.jts.length] 26) = w8 at *
  have h88 : Below w8.heap.size w8 w8.drew := (Below.refl _ _).drew
  go_region_held3 (fun w' => LS2 w w w' (.slice a N.pcs.length cap) (.slice a' N.jts.length cap') q at' way w6.heap.size (.slice (some ⟨c1, 0, none⟩) N.pcs.length N.pcs.length) (.slice (some ⟨c2, 0, none⟩) N.jts.length N.jts.length) ∧ Hid (Below w8.heap.size w8 w'))
    (first
      | (exact ⟨⟨keepL h88 HLS8.out, cell_later' h88 v0, cell_later' h88 v1⟩, h88⟩)
      | (exact keep88 (by assumption) (by assumption)))
    (first
      | (go_at_call 16; refine (toSpot_any _ _ _ _).mono ?_; rintro e w9 ⟨rfl, hbE⟩)
      | (go_at_call 8; refine (implReach_any _ _ N _ _ _ _ _ _ _ HWF.out hn HNS.out hl HLS.out (HO8.out.later (chn h88 hbE)).2.2.2.1 (HO8.out.later (chn h88 hbE)).2.2.2.2.at).mono ?_; rintro e w10 ⟨v, rfl, how, hbJ⟩))
  rename_i hH
  rw [HQ.out] at how
  obtain ⟨y, yc, rfl, hNP⟩ := newSpots (owns_low how (base' := w8.heap.size) hbE.size)
  have HYP := hide hNP
  have h8x := hH.2.out
  have h810 := h8x.size
  have HLS10 := hide hH.1.1
  have v0 := hH.1.2.1
  have v1 := hH.1.2.2
  have HO10 := hide (HO8.out.later h8x)
  have HRJ := hide (HRJ.out.later h8x)
  have HZP := hide (HZP.out.later h8x)
  clear hH how hNP hbJ hbE h8x HLS8 HO8 h88
  obtain ⟨t0, t1, e0, e1, e2⟩ := HLS10.out.1
  go_wp2_with fail
  refine (eqSpotS_same y z ps yc zc _ hps HYP.out.1 HZP.out).mono ?_
  rintro e w11 ⟨rfl, hb11⟩
  have HLS11 := hide (keepL hb11 HLS10.out)
  have HO11 := hide (HO10.out.later hb11)
  have HRJ := hide (HRJ.out.later hb11)
  have HZP := hide (HZP.out.later hb11)
  have HYP := hide (HYP.out.later hb11)
  have v0 := cell_later' hb11 v0
  have v1 := cell_later' hb11 v1
  have h1011 := hb11.size
  clear hb11 HLS10 HO10 t0 t1 e0 e1 e2
  have h11 : Below w11.heap.size w11 w11.drew := (Below.refl _ _).drew
  go_upto_region 10 with fail
  go_region_held3 (fun w' => LS2 w w w' (.slice a N.pcs.length cap) (.slice a' N.jts.length cap') q at' way w6.heap.size (.slice (some ⟨c1, 0, none⟩) N.pcs.length N.pcs.length) (.slice (some ⟨c2, 0, none⟩) N.jts.length N.jts.length) ∧ Hid (Below w11.heap.size w11 w'))
    (first
      | (exact ⟨⟨keepL h11 HLS11.out, cell_later' h11 v0, cell_later' h11 v1⟩, h11⟩)
      | (exact keep88 (by assumption) (by assumption)))
    (first
      | (go_at_call 15; refine (toNet_any a a' N cap cap' _ hn (HP.out.later (heldB HLS11.out |>.trans (h11.mono (heldB HLS11.out).size))) hl HLM.out (HJ.out.later (heldB HLS11.out |>.trans (h11.mono (heldB HLS11.out).size)))).mono ?_; rintro e w12 ⟨d1, d2, rfl, hO12, hb12⟩)
      | (go_at_call 18; refine (eqNet_same _ _ _ _ N _ _ _ _ _ hn hl HLM.out (HO11.out.later (chn h11 hb12)).2.2.2.1 hO12.2.2.2.1 (HO11.out.later (chn h11 hb12)).2.2.2.2.at hO12.2.2.2.2.at).mono ?_; rintro e w13 ⟨rfl, hb13⟩))
  rename_i hH
  have h13 := hH.2.out
  have h1113 := h13.size
  have HLS13 := hide hH.1.1
  have v0 := hH.1.2.1
  have v1 := hH.1.2.2
  have HR1 := hide (HO11.out.2.2.1.later h13)
  have HRJ := hide (HRJ.out.later h13)
  have HZP := hide (HZP.out.later h13)
  have HYP := hide (HYP.out.later h13)
  clear hH h13 hb12 hb13 hO12 HLS11 HO11 h11
  obtain ⟨t0, t1, e0, e1, e2⟩ := HLS13.out.1
  go_wp2_with fail
  refine (markNet_any w5.heap.size c1 c2 w6.heap.size _ _ N 1 _ hn hl HLM.out (by omega) (by omega) hc1 hc2 HR1.out HRJ.out).mono ?_
  rintro e w16 ⟨k', rfl, hk', hm16⟩
  have hs16 := hm16.size
  have HLS17 := hide (HLS13.out.mid hm16 hw5 (by omega))
  have HZP := hide (HZP.out.mid hm16 (fun b off h => (HZB.out b off h).imp id (fun h => .inl h)))
  have HYP := hide (HYP.out.mid hm16 (fun b _ _ h => .inr (by omega)))
  have hk2 : decide (k' < 0) = false := by rw [decide_eq_false_iff_not]; omega
  clear hm16 HR1 HRJ HLS13 v0 v1 t0 t1 e0 e1 e2
  go_wp2_with fail
  refine (eqSpotS_same y z ps yc zc _ hps HYP.out.1 HZP.out).mono ?_
  rintro e w18 ⟨rfl, hb18⟩
  have hs18 := hb18.size
  have HLS18 := hide (keepL hb18 HLS17.out)
  have HZP := hide (HZP.out.later hb18)
  have HYP := hide (HYP.out.later hb18)
  clear hb18 HLS17
  go_wp2_with fail
  refine (markSpots_own yc HYP.out hps).mono ?_
  rintro e w19 ⟨rfl, hm19, hmk⟩
  have hs19 := hm19.size
  have HLS19 := hide (HLS18.out.mid hm19 (by omega) (by omega))
  have HZP := hide (HZP.out.mid hm19 (fun b off h => (HZB.out b off h).imp id (fun h => .inl (by omega))))
  have HMK := hide hmk
  clear hm19 hmk HYP HLS18
  go_wp2_with fail
  refine (heldSpots_own yc HMK.out hps).mono ?_
  rintro e w19' ⟨rfl, rfl⟩
  have hq1 : ((1 + 3 * (ps.length : Int)) != 1 + 3 * (ps.length : Int)) = false := by simp
  have hq2 : decide (1 + 3 * (ps.length : Int) < 0) = false := by rw [decide_eq_false_iff_not]; omega
  go_upto_region 24 with fail
  go_region_held3 (fun w' => LS w w w' (.slice a N.pcs.length cap) (.slice a' N.jts.length cap') q at' way ∧ Hid (Below w19.heap.size w19 w'))
    (first
      | (exact ⟨keepL ((Below.refl w19.heap.size w19).drew) HLS19.out, (Below.refl w19.heap.size w19).drew⟩)
      | (exact keep19 (by assumption) (by assumption)))
    (first
      | (go_at_call 15; refine (toNet_any a a' N cap cap' _ hn (HP.out.later (heldB (And.left (by assumption : LS w w _ (.slice a N.pcs.length cap) (.slice a' N.jts.length cap') q at' way ∧ Hid (Below w19.heap.size w19 _))))) hl HLM.out (HJ.out.later (heldB (And.left (by assumption : LS w w _ (.slice a N.pcs.length cap) (.slice a' N.jts.length cap') q at' way ∧ Hid (Below w19.heap.size w19 _)))))).mono ?_; rintro e w20 ⟨b1, b2, rfl, hO, hbN⟩)
      | (go_at_call 16; refine (toSpot_any _ _ _ _).mono ?_; rintro e w22 ⟨rfl, hbE⟩)
      | (go_at_call 8; refine (implReach_any _ _ N _ _ _ _ _ _ _ HWF.out hn HNS.out hl HLS.out (hO.later hbE).2.2.2.1 (hO.later hbE).2.2.2.2.at).mono ?_; rintro e w23 ⟨v, rfl, how, hbJ⟩))
  rename_i hH
  rw [HQ.out] at how
  obtain ⟨x, xc, rfl, hNP⟩ := newSpots how
  have HXP := hide hNP.1
  have h1923 := hH.2.out
  have HLS23 := hide hH.1
  have HZP := hide (HZP.out.later h1923)
  have HMK := hide (HMK.out.later h1923)
  clear hH how hNP hbJ hbE hbN hO h1923 HLS19
  go_wp2_with fail
  refine (eqSpotS_same x z ps xc zc _ hps HXP.out HZP.out).mono ?_
  rintro e w24 ⟨rfl, hb24⟩
  have hB24 := (heldB HLS23.out).trans (hb24.mono (heldB HLS23.out).size)
  have HMK := hide (HMK.out.later hb24)
  clear hb24
  go_wp2_with fail
  refine (heldSpots_own yc HMK.out hps).mono ?_
  rintro e w24' ⟨rfl, rfl⟩
  go_wp2_with fail
  go_ret
  exact ⟨rfl, hB24⟩
end Go.Proofs.YtijdigdcmjdooaaGreat

/- A spot, and a list of numbers, that came in. Own work. -/
namespace Go.Proofs.YtijdigdcmjdooaaGreat
open Go.ChangeShapes Go.WideShapes Go.ChangeAt Go.RowKit Go.Joins

set_option maxRecDepth 100000 in
theorem spot_of_trod {H : Type} {enc : TypeId × Value → H} {w : World} {spare : Nat → Bool} {held : Bool} {r : Reach} {b0 : Nat} {v : Value} {d : DataW H} {p : List MemPlace} (hv : Value.okWide Tryz.prog w r b0 49 v) (h : DataW.Trod enc Tryz.prog w 0 spare held 49 v d p) :
    ∃ x y z : Int, v = .agg #[.int .i64 x, .int .i64 y, .int .i64 z] ∧ Wf3 x y z := by
  obtain ⟨v0, v1, v2, y0, y1, y2, n, rfl, _, _, h0, h1, h2⟩ := open_agg3 Tryz.underlying49 (by kernel_rfl) (by kernel_rfl) hv h
  obtain ⟨x, e0, _, w0⟩ := DataW.trod_int Tryz.underlying3 h0
  obtain ⟨y, e1, _, w1⟩ := DataW.trod_int Tryz.underlying3 h1
  obtain ⟨z, e2, _, w2⟩ := DataW.trod_int Tryz.underlying3 h2
  simp at e0 e1 e2
  subst e0; subst e1; subst e2
  exact ⟨x, y, z, rfl, w0, w1, w2⟩
end Go.Proofs.YtijdigdcmjdooaaGreat

/- A list of numbers, and a number, that came in. Own work. -/
namespace Go.Proofs.YtijdigdcmjdooaaGreat
open Go.ChangeShapes Go.WideShapes Go.ChangeAt Go.RowKit Go.Joins

theorem slice_cells {P : Program} {w : World} {r : Reach} {b0 : Nat} {t e : TypeId} {v : Value} (ht : P.underlying t = some (.slice e)) (hv : Value.okWide P w r b0 t v) : v.cells = #[v] := by
  obtain ⟨a, len, cap, rfl⟩ := okWide_slice ht hv
  rfl

theorem ints_of_trod {H : Type} {enc : TypeId × Value → H} {w : World} {spare : Nat → Bool} {held : Bool} {v : Value} {d : DataW H} {p : List MemPlace} (hone : v.cells = #[v]) (h : DataW.Trod enc Tryz.prog w 0 spare held 39 v d p) :
    ∃ (a : Option Addr) (cap : Nat) (xs : List Int), v = .slice a xs.length cap ∧ IntsAt w a xs ∧ xs.length ≤ maxLen ∧ ∀ x ∈ xs, (Lit.int .i64 x).wf = true := by
  obtain ⟨m, hm⟩ := h
  rcases open_ints Tryz.underlying39 Tryz.underlying3 cellsI hm with ⟨hv, _⟩ | ⟨a, len, cap, zs, hv, _, hlc, hcm, hzl, _, hcell, hwf⟩
  · rw [hone] at hv
    have : v = .slice none 0 0 := by simpa using hv
    subst this
    exact ⟨none, 0, [], rfl, fun k hk => by simp at hk, by simp, by simp⟩
  · rw [hone] at hv
    have : v = .slice (some a) len cap := by simpa using hv
    subst this
    have hlz : len ≤ zs.length := by rw [hzl]; split <;> omega
    have hlen : (zs.take len).length = len := by rw [List.length_take]; omega
    refine ⟨some a, cap, zs.take len, by rw [hlen], ?_, by omega, fun x hx => hwf x (List.mem_of_mem_take hx)⟩
    intro k hk
    obtain ⟨b, off, spot⟩ := a
    have h00 := hcell 0 (by omega)
    have hspot : spot = none := by simpa [Addr.add] using World.cell?_spot h00
    subst hspot
    have hk2 := hcell k (by omega)
    rw [add_plain] at hk2
    refine ⟨b, off, rfl, ?_⟩
    rw [hk2]
    have : k < zs.length := by omega
    simp [List.getD, this]
end Go.Proofs.YtijdigdcmjdooaaGreat

/- FnExactReach. Own work. -/
namespace Go.Proofs.YtijdigdcmjdooaaGreat
open Go.ChangeShapes Go.WideShapes Go.ChangeAt Go.RowKit Go.Joins

theorem own_knob : ownKnob Tryz.prog.godebug = none := by kernel_rfl

set_option maxRecDepth 100000 in
theorem fnExactReach_lifted (os : Os) (started : os.Started) (H : Type) (enc : TypeId × Value → H) :
    ReturnsInHanded {} Tryz.checked os 4 .any (Rows.fnExactReachSpec.pre6 enc Tryz.prog Tryz.f4 Rows.fnExactReachRow.domain false) (Rows.fnExactReachSpec.post enc Tryz.prog Tryz.f4 false true false false) := by
  refine returnsInHanded_of_change (C := Tryz.checked) own_knob started (by kernel_rfl) Tryz.func4
    (ChangeSpec.witness6 (enc := enc) (C := Tryz.checked) false ⟨#[], #[.agg #[.slice none 0 0, .slice none 0 0], .agg #[.int .i64 0, .int .i64 0, .int .i64 0], .int .i64 0], []⟩ 8 (by kernel_rfl) (by kernel_rfl) (by kernel_rfl) (by kernel_rfl)) ?_
  intro W base args ds gs before hval0 hW hcnd _
  have hval : ∀ (j : Nat) t v, Tryz.f4.params[j]? = some t → args[j]? = some v → Value.okWide Tryz.prog W .any base t v := hval0
  have hW' := hW
  obtain ⟨p, q, hA0, hV, rfl, hfz, hnd⟩ := hW
  have hA : DataW.TrodAll enc Tryz.prog W 0 (fun _ => true) true Tryz.f4.params.toList args.toList ds p := hA0
  rw [Tryz.params4] at hA hval
  obtain ⟨v0, vs0, d0, ds0, p0, q0, hargs, rfl, rfl, h0, r0⟩ := trodAll_cons hA
  obtain ⟨v1, vs1, d1, ds1, p1, q1, rfl, rfl, rfl, h1, r1⟩ := trodAll_cons r0
  obtain ⟨v2, vs2, d2, ds2, p2, q2, rfl, rfl, rfl, h2, r2⟩ := trodAll_cons r1
  obtain ⟨rfl, rfl, rfl⟩ := trodAll_nil r2
  obtain rfl : args = #[v0, v1, v2] := by cases args; simp_all
  obtain ⟨rfl, rfl⟩ := trodVars_none hV
  have lt0 : ∀ x ∈ p0, x.block < W.heap.size := by obtain ⟨m, hm⟩ := h0; exact DataW.trod_lt m _ _ _ hm
  have lt1 : ∀ x ∈ p1, x.block < W.heap.size := by obtain ⟨m, hm⟩ := h1; exact DataW.trod_lt m _ _ _ hm
  obtain ⟨N, a, a', cap, cap', rfl, hp, hj, hn, hl⟩ := net_of_trod (hval 0 48 v0 rfl rfl) h0
  obtain ⟨x, y, z, rfl, hwf⟩ := spot_of_trod (hval 1 49 v1 rfl rfl) h1
  obtain ⟨far, rfl, rfl, rfl, hff⟩ := open_int Tryz.underlying3 (hval 2 3 v2 rfl rfl) h2
  clear hA0 hval0
  refine (fnReach_walk a a' N cap cap' x y z far W hwf hp hj hn hl).mono fun e W' ⟨he, bel⟩ => ?_
  subst he
  exact ⟨_, rfl, _, _, _, [], _, [], hW', trodAll_mk1 (shut_bool Tryz.underlying4 _), (trodAll_cons_mk (Below.trod Tryz.laidOut (by kernel_rfl) (of_decide_eq_true (by kernel_rfl)) h0 bel lt0) (trodAll_cons_mk (Below.trod Tryz.laidOut (by kernel_rfl) (of_decide_eq_true (by kernel_rfl)) h1 bel lt1) (trodAll_cons_mk (shut_int Tryz.underlying3 hff) trodAll_mk0))), rfl, bel.frame _, fun h => by cases h⟩

theorem fnExactReach_over : Rows.fnExactReachRow.holds Tryz.pinned (OpenSpec.ofChange Rows.fnExactReachSpec) :=
  OpenClaim.holds_of_wide 4 Tryz.f4 rfl rfl rfl rfl rfl rfl rfl ⟨rfl, rfl, rfl, rfl, rfl⟩ rfl rfl rfl rfl rfl (by kernel_rfl) Tryz.func4 (by kernel_rfl)
    (of_decide_eq_true (by kernel_rfl)) (by unfold Func.isWrapper; first | (rw [if_pos (by decide +kernel)]; kernel_rfl) | (rw [if_neg (by decide +kernel)]; exact ⟨rfl, rfl⟩))
    (fun os started H enc _ => fnExactReach_lifted os started H enc)
end Go.Proofs.YtijdigdcmjdooaaGreat

/- FnExactReach, proved. Own work. -/
namespace Go.Proofs.YtijdigdcmjdooaaGreat
theorem fnExactReach_holds : Rows.FnExactReachSaid := fnExactReach_over
end Go.Proofs.YtijdigdcmjdooaaGreat
