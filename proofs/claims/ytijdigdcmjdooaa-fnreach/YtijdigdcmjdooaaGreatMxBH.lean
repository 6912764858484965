/- The law FnExactReach's walk. Own work. -/
import Derived.Test.YtijdigdcmjdooaaGreatMxAG
import Derived.Test.YtijdigdcmjdooaaGreatMxBG
import Derived.Test.YtijdigdcmjdooaaGreatRcS
import Derived.Test.YtijdigdcmjdooaaGreatMxAF
import Derived.Test.YtijdigdcmjdooaaGreatMxAB
import Derived.Test.YtijdigdcmjdooaaGreatMxAU
import Derived.Test.YtijdigdcmjdooaaGreatMxAZ
namespace Go.Proofs.YtijdigdcmjdooaaGreat
open Go.RowKit
set_option maxHeartbeats 8000000

theorem keep88 {w w1 w2 w3 : World} {v0 v1 u0 u1 : Value} {q at' way : Int} {b : Nat} (hb : Below w2.heap.size w2 w3) (h : LS2 w w w2 v0 v1 q at' way b u0 u1 ∧ Hid (Below w1.heap.size w1 w2)) : LS2 w w w3 v0 v1 q at' way b u0 u1 ∧ Hid (Below w1.heap.size w1 w3) :=
  ⟨keepL2 hb h.1, h.2.out.trans (hb.mono h.2.out.size)⟩
theorem keep19 {w w1 w2 w3 : World} {v0 v1 : Value} {q at' way : Int} (hb : Below w2.heap.size w2 w3) (h : LS w w w2 v0 v1 q at' way ∧ Hid (Below w1.heap.size w1 w2)) : LS w w w3 v0 v1 q at' way ∧ Hid (Below w1.heap.size w1 w3) :=
  ⟨keepL hb h.1, h.2.out.trans (hb.mono h.2.out.size)⟩
theorem goR_few {N : Nt} : ∀ (k : Nat) (out : List (Int × Int × Int)) (line : List Dv) (r : List (Int × Int × Int)), out.length ≤ 200 → goR N k out line = some r → r.length ≤ 200
  | k, out, [], r, ho, h => by
    rw [goR_nil] at h
    obtain rfl := Option.some.inj h
    exact ho
  | 0, out, c :: line, r, ho, h => by cases h
  | k + 1, out, c :: line, r, ho, h => by
    rw [goR] at h
    split at h
    · cases h
    · rename_i hm
      simp only [muchR, Bool.or_eq_true, decide_eq_true_eq, not_or] at hm
      exact goR_few k _ _ r (by omega) h
theorem reachP_few (N : Nt) (s : Int × Int × Int) (far : Int) : (reachP N s far).length ≤ 200 := by
  unfold reachP
  split
  · unfold reachR
    split
    · simp
    · rename_i out h
      rw [List.length_mergeSort]
      refine goR_few _ _ _ out ?_ h
      unfold stepR
      split
      · have h1 := (addO_len ([] : List (Int × Int × Int)) (toldR (s, far))).2
        dsimp only
        rw [List.length_nil] at h1
        omega
      · simp
  · simp

theorem fnReach_walk (a a' : Option Addr) (N : Nt) (cap cap' : Nat) (q at' way far : Int) (w : World) (hwf : Wf3 q at' way) (hp : PcsAt w a N.pcs) (hj : JtsAt w a' N.jts) (hn : N.pcs.length ≤ maxLen ∧ ∀ p ∈ N.pcs, p.name.size ≤ maxLen) (hl : N.jts.length ≤ maxLen ∧ ∀ j ∈ N.jts, j.name.size ≤ maxLen ∧ j.ends.length ≤ maxLen) :
    Calls Tryz.prog 4 #[.agg #[.slice a N.pcs.length cap, .slice a' N.jts.length cap'], .agg #[.int .i64 q, .int .i64 at', .int .i64 way], .int .i64 far] w fun e w' =>
    e = .returned (.bool true) ∧ Below w.heap.size w w' := by
  have HP := hide hp
  have HJ := hide hj
  have HN := hide hn
  have HL := hide hl
  have HWF := hide hwf
  clear hp hj hn hl hwf
  have hbW : Below w.heap.size w ((w.alloc (.cells #[.slice a N.pcs.length cap, .slice a' N.jts.length cap'] 48)).alloc (.cells #[.int .i64 q, .int .i64 at', .int .i64 way] 49)) := ((Below.refl _ _).alloc (Nat.le_refl _) _).alloc (by simp) _
  go_enter Tryz.func4, Tryz.ntmps4
  go_wp2_with fail
  refine (szNet_any a a' N cap cap' 1048576 _ HN.out.1 (HP.out.later hbW) HN.out.2 HL.out.1 (HJ.out.later hbW) HL.out.2 (by omega) (by omega)).mono ?_
  rintro e w1 ⟨r, rfl, hr1, hr2, hr3, hb1⟩
  obtain ⟨hc, hf⟩ := bcell hb1
  have hB1 := hbW.trans (hb1.mono hbW.size)
  have t0 : w1.cell? ⟨w.heap.size, 0, none⟩ = some (.slice a N.pcs.length cap) := by rw [hc _ _ (by simp; omega)]; simp [go_sem]
  have t1 : w1.cell? ⟨w.heap.size, 1, none⟩ = some (.slice a' N.jts.length cap') := by rw [hc _ _ (by simp; omega)]; simp [go_sem]
  have e0 : w1.cell? ⟨w.heap.size + 1, 0, none⟩ = some (.int .i64 q) := by rw [hc _ _ (by simp)]; simp [go_sem]
  have e1 : w1.cell? ⟨w.heap.size + 1, 1, none⟩ = some (.int .i64 at') := by rw [hc _ _ (by simp)]; simp [go_sem]
  have e2 : w1.cell? ⟨w.heap.size + 1, 2, none⟩ = some (.int .i64 way) := by rw [hc _ _ (by simp)]; simp [go_sem]
  have HLS1 : Hid (LS w w w1 (.slice a N.pcs.length cap) (.slice a' N.jts.length cap') q at' way) := ⟨⟨t0, t1, e0, e1, e2⟩, hB1⟩
  have HR := hide hr3
  clear hr3 hb1 hc hf
  by_cases hr : r < 0
  · go_wp2_with fail
    go_ret
    exact ⟨rfl, hB1⟩
  have hrr : decide (r < 0) = false := by rw [decide_eq_false_iff_not]; exact hr
  obtain ⟨⟨hn, hns⟩, hl, hls⟩ := HR.out (by omega)
  have HNS := hide hns
  have HLS := hide hls
  have HLM := hide (fun j (hj : j ∈ N.jts) => (HLS.out j hj).2)
  clear hns hls hbW
  go_upto_region 5 with fail
  go_region_held3 (fun w' => LS w w w' (.slice a N.pcs.length cap) (.slice a' N.jts.length cap') q at' way)
    (first
      | (exact keepL ((Below.refl w1.heap.size w1).drew) HLS1.out)
      | (exact keepL (by assumption) (by assumption)))
    (first
      | (go_at_call 15; refine (toNet_any a a' N cap cap' _ hn (HP.out.later (heldB (by assumption))) hl HLM.out (HJ.out.later (heldB (by assumption)))).mono ?_; rintro e w2 ⟨b1, b2, rfl, hO, hbN⟩)
      | (go_at_call 16; refine (toSpot_any _ _ _ _).mono ?_; rintro e w4 ⟨rfl, hbE⟩)
      | (go_at_call 9; refine (specReach_any _ _ N _ _ _ _ _ _ _ hn HNS.out hl HLS.out (hO.later hbE).2.2.2.1 (hO.later hbE).2.2.2.2.at).mono ?_; rintro e w5 ⟨v, rfl, how, hbJ⟩))
  rename_i hH
  have HLS5 := hide hH
  have hps := reachP_few N (q, at', way) far
  generalize hq : reachP N (q, at', way) far = ps at how hps
  have HQ := hide hq
  replace hps : ps.length ≤ 1048576 := by omega
  obtain ⟨z, zc, rfl, hNP⟩ := newSpots how
  have HZP := hide hNP.1
  have HZB := hide (show ∀ b off, z = some ⟨b, off, none⟩ → ps.length = 0 ∨ b < w5.heap.size from fun b off h => (hNP.lt b off h).imp id (fun h => h.2))
  have hw5 : w.heap.size + 1 < w5.heap.size := cell_lt hH.1.2.2.1
  clear hH how hNP hbJ hbE hbN hO hq
  have hB5 := heldB HLS5.out
  obtain ⟨t0, t1, e0, e1, e2⟩ := HLS5.out.1
  clear HLS1
  go_wp2_with fail
  refine (toNet_any a a' N cap cap' _ hn (HP.out.later hB5) hl HLM.out (HJ.out.later hB5)).mono ?_
  rintro e w6 ⟨c1, c2, rfl, hO, hb6⟩
  have hc1 := hO.1
  have hc2 := hO.2.1
  have HRJ := hide hO.2.2.2.2.rows
  have h56 := hb6.size
  have hA := (Below.refl w6.heap.size w6).alloc (Nat.le_refl _) (.cells #[.slice (some ⟨c1, 0, none⟩) N.pcs.length N.pcs.length, .slice (some ⟨c2, 0, none⟩) N.jts.length N.jts.length] 26)
  have v0 := new_cell w6 #[.slice (some ⟨c1, 0, none⟩) N.pcs.length N.pcs.length, .slice (some ⟨c2, 0, none⟩) N.jts.length N.jts.length] 26 0 _ rfl
  have v1 := new_cell w6 #[.slice (some ⟨c1, 0, none⟩) N.pcs.length N.pcs.length, .slice (some ⟨c2, 0, none⟩) N.jts.length N.jts.length] 26 1 _ rfl
  have hs7 : w6.heap.size < (w6.alloc (.cells #[.slice (some ⟨c1, 0, none⟩) N.pcs.length N.pcs.length, .slice (some ⟨c2, 0, none⟩) N.jts.length N.jts.length] 26)).heap.size := by simp
  have HLS8 := hide (keepL (chn hb6 hA) HLS5.out)
  have HO8 := hide (hO.later hA)
  have HRJ := hide (HRJ.out.later hA)
  have HZP := hide (HZP.out.later (chn hb6 hA))
  clear hO hA hb6 HLS5 t0 t1 e0 e1 e2 hB5
  go_upto_region 7 with fail
  generalize w6.alloc (.cells #[.slice (some ⟨c1, 0, none⟩) N.pcs.length N.pcs.length, .slice (some ⟨c2, 0, none⟩) N.jts.length N.jts.length] 26) = w8 at *
  have h88 : Below w8.heap.size w8 w8.drew := (Below.refl _ _).drew
  go_region_held3 (fun w' => LS2 w w w' (.slice a N.pcs.length cap) (.slice a' N.jts.length cap') q at' way w6.heap.size (.slice (some ⟨c1, 0, none⟩) N.pcs.length N.pcs.length) (.slice (some ⟨c2, 0, none⟩) N.jts.length N.jts.length) ∧ Hid (Below w8.heap.size w8 w'))
    (first
      | (exact ⟨⟨keepL h88 HLS8.out, cell_later' h88 v0, cell_later' h88 v1⟩, h88⟩)
      | (exact keep88 (by assumption) (by assumption)))
    (first
      | (go_at_call 16; refine (toSpot_any _ _ _ _).mono ?_; rintro e w9 ⟨rfl, hbE⟩)
      | (go_at_call 8; refine (implReach_any _ _ N _ _ _ _ _ _ _ HWF.out hn HNS.out hl HLS.out (HO8.out.later (chn h88 hbE)).2.2.2.1 (HO8.out.later (chn h88 hbE)).2.2.2.2.at).mono ?_; rintro e w10 ⟨v, rfl, how, hbJ⟩))
  rename_i hH
  rw [HQ.out] at how
  obtain ⟨y, yc, rfl, hNP⟩ := newSpots (owns_low how (base' := w8.heap.size) hbE.size)
  have HYP := hide hNP
  have h8x := hH.2.out
  have h810 := h8x.size
  have HLS10 := hide hH.1.1
  have v0 := hH.1.2.1
  have v1 := hH.1.2.2
  have HO10 := hide (HO8.out.later h8x)
  have HRJ := hide (HRJ.out.later h8x)
  have HZP := hide (HZP.out.later h8x)
  clear hH how hNP hbJ hbE h8x HLS8 HO8 h88
  obtain ⟨t0, t1, e0, e1, e2⟩ := HLS10.out.1
  go_wp2_with fail
  refine (eqSpotS_same y z ps yc zc _ hps HYP.out.1 HZP.out).mono ?_
  rintro e w11 ⟨rfl, hb11⟩
  have HLS11 := hide (keepL hb11 HLS10.out)
  have HO11 := hide (HO10.out.later hb11)
  have HRJ := hide (HRJ.out.later hb11)
  have HZP := hide (HZP.out.later hb11)
  have HYP := hide (HYP.out.later hb11)
  have v0 := cell_later' hb11 v0
  have v1 := cell_later' hb11 v1
  have h1011 := hb11.size
  clear hb11 HLS10 HO10 t0 t1 e0 e1 e2
  have h11 : Below w11.heap.size w11 w11.drew := (Below.refl _ _).drew
  go_upto_region 10 with fail
  go_region_held3 (fun w' => LS2 w w w' (.slice a N.pcs.length cap) (.slice a' N.jts.length cap') q at' way w6.heap.size (.slice (some ⟨c1, 0, none⟩) N.pcs.length N.pcs.length) (.slice (some ⟨c2, 0, none⟩) N.jts.length N.jts.length) ∧ Hid (Below w11.heap.size w11 w'))
    (first
      | (exact ⟨⟨keepL h11 HLS11.out, cell_later' h11 v0, cell_later' h11 v1⟩, h11⟩)
      | (exact keep88 (by assumption) (by assumption)))
    (first
      | (go_at_call 15; refine (toNet_any a a' N cap cap' _ hn (HP.out.later (heldB HLS11.out |>.trans (h11.mono (heldB HLS11.out).size))) hl HLM.out (HJ.out.later (heldB HLS11.out |>.trans (h11.mono (heldB HLS11.out).size)))).mono ?_; rintro e w12 ⟨d1, d2, rfl, hO12, hb12⟩)
      | (go_at_call 18; refine (eqNet_same _ _ _ _ N _ _ _ _ _ hn hl HLM.out (HO11.out.later (chn h11 hb12)).2.2.2.1 hO12.2.2.2.1 (HO11.out.later (chn h11 hb12)).2.2.2.2.at hO12.2.2.2.2.at).mono ?_; rintro e w13 ⟨rfl, hb13⟩))
  rename_i hH
  have h13 := hH.2.out
  have h1113 := h13.size
  have HLS13 := hide hH.1.1
  have v0 := hH.1.2.1
  have v1 := hH.1.2.2
  have HR1 := hide (HO11.out.2.2.1.later h13)
  have HRJ := hide (HRJ.out.later h13)
  have HZP := hide (HZP.out.later h13)
  have HYP := hide (HYP.out.later h13)
  clear hH h13 hb12 hb13 hO12 HLS11 HO11 h11
  obtain ⟨t0, t1, e0, e1, e2⟩ := HLS13.out.1
  go_wp2_with fail
  refine (markNet_any w5.heap.size c1 c2 w6.heap.size _ _ N 1 _ hn hl HLM.out (by omega) (by omega) hc1 hc2 HR1.out HRJ.out).mono ?_
  rintro e w16 ⟨k', rfl, hk', hm16⟩
  have hs16 := hm16.size
  have HLS17 := hide (HLS13.out.mid hm16 hw5 (by omega))
  have HZP := hide (HZP.out.mid hm16 (fun b off h => (HZB.out b off h).imp id (fun h => .inl h)))
  have HYP := hide (HYP.out.mid hm16 (fun b _ _ h => .inr (by omega)))
  have hk2 : decide (k' < 0) = false := by rw [decide_eq_false_iff_not]; omega
  clear hm16 HR1 HRJ HLS13 v0 v1 t0 t1 e0 e1 e2
  go_wp2_with fail
  refine (eqSpotS_same y z ps yc zc _ hps HYP.out.1 HZP.out).mono ?_
  rintro e w18 ⟨rfl, hb18⟩
  have hs18 := hb18.size
  have HLS18 := hide (keepL hb18 HLS17.out)
  have HZP := hide (HZP.out.later hb18)
  have HYP := hide (HYP.out.later hb18)
  clear hb18 HLS17
  go_wp2_with fail
  refine (markSpots_own yc HYP.out hps).mono ?_
  rintro e w19 ⟨rfl, hm19, hmk⟩
  have hs19 := hm19.size
  have HLS19 := hide (HLS18.out.mid hm19 (by omega) (by omega))
  have HZP := hide (HZP.out.mid hm19 (fun b off h => (HZB.out b off h).imp id (fun h => .inl (by omega))))
  have HMK := hide hmk
  clear hm19 hmk HYP HLS18
  go_wp2_with fail
  refine (heldSpots_own yc HMK.out hps).mono ?_
  rintro e w19' ⟨rfl, rfl⟩
  have hq1 : ((1 + 3 * (ps.length : Int)) != 1 + 3 * (ps.length : Int)) = false := by simp
  have hq2 : decide (1 + 3 * (ps.length : Int) < 0) = false := by rw [decide_eq_false_iff_not]; omega
  go_upto_region 24 with fail
  go_region_held3 (fun w' => LS w w w' (.slice a N.pcs.length cap) (.slice a' N.jts.length cap') q at' way ∧ Hid (Below w19.heap.size w19 w'))
    (first
      | (exact ⟨keepL ((Below.refl w19.heap.size w19).drew) HLS19.out, (Below.refl w19.heap.size w19).drew⟩)
      | (exact keep19 (by assumption) (by assumption)))
    (first
      | (go_at_call 15; refine (toNet_any a a' N cap cap' _ hn (HP.out.later (heldB (And.left (by assumption : LS w w _ (.slice a N.pcs.length cap) (.slice a' N.jts.length cap') q at' way ∧ Hid (Below w19.heap.size w19 _))))) hl HLM.out (HJ.out.later (heldB (And.left (by assumption : LS w w _ (.slice a N.pcs.length cap) (.slice a' N.jts.length cap') q at' way ∧ Hid (Below w19.heap.size w19 _)))))).mono ?_; rintro e w20 ⟨b1, b2, rfl, hO, hbN⟩)
      | (go_at_call 16; refine (toSpot_any _ _ _ _).mono ?_; rintro e w22 ⟨rfl, hbE⟩)
      | (go_at_call 8; refine (implReach_any _ _ N _ _ _ _ _ _ _ HWF.out hn HNS.out hl HLS.out (hO.later hbE).2.2.2.1 (hO.later hbE).2.2.2.2.at).mono ?_; rintro e w23 ⟨v, rfl, how, hbJ⟩))
  rename_i hH
  rw [HQ.out] at how
  obtain ⟨x, xc, rfl, hNP⟩ := newSpots how
  have HXP := hide hNP.1
  have h1923 := hH.2.out
  have HLS23 := hide hH.1
  have HZP := hide (HZP.out.later h1923)
  have HMK := hide (HMK.out.later h1923)
  clear hH how hNP hbJ hbE hbN hO h1923 HLS19
  go_wp2_with fail
  refine (eqSpotS_same x z ps xc zc _ hps HXP.out HZP.out).mono ?_
  rintro e w24 ⟨rfl, hb24⟩
  have hB24 := (heldB HLS23.out).trans (hb24.mono (heldB HLS23.out).size)
  have HMK := hide (HMK.out.later hb24)
  clear hb24
  go_wp2_with fail
  refine (heldSpots_own yc HMK.out hps).mono ?_
  rintro e w24' ⟨rfl, rfl⟩
  go_wp2_with fail
  go_ret
  exact ⟨rfl, hB24⟩
end Go.Proofs.YtijdigdcmjdooaaGreat

/- A drive is a way: plain. Own work. -/
namespace Go.Proofs.YtijdigdcmjdooaaGreat
set_option maxHeartbeats 1000000

theorem over_mem {N : Nt} {xs : List Int} (hr : netOk N = (0, 0)) (hl : liesP N.jts xs = true) {e : Int × Int} {j i : Nat} (hj : j < N.jts.length) (hx : j < xs.length) (hat : At N.jts e j i) (hc : (overP N.jts[j] e i xs[j]).2 = 0) : (overP N.jts[j] e i xs[j]).1 ∈ nxP N e := by
  have hB3 : jb3 N.pcs.length N.jts[j] = false := by rw [← jtBad3_jb3 hj]; exact (right_facts hr).2.2.1 j hj
  obtain ⟨⟨hk1, hk4⟩, hkl⟩ := jb3_len hB3
  rw [nx_at hr hat hj]
  obtain ⟨_, hil, _⟩ := hat
  have hlie : lieOk N.jts[j] xs[j] = true := by
    cases hbad : lieOk N.jts[j] xs[j]
    · rw [liesP_bad hj hx hbad] at hl; simp at hl
    · rfl
  have hx02 : 0 ≤ xs[j] ∧ xs[j] ≤ 2 := by simp only [lieOk, inR, Bool.and_eq_true, decide_eq_true_eq] at hlie; omega
  unfold overP at hc ⊢
  by_cases k1 : N.jts[j].kind = 1
  · rw [if_pos k1] at hc; simp at hc
  rw [if_neg k1] at hc ⊢
  by_cases k2 : N.jts[j].kind = 3 ∧ xs[j] = 0
  · rw [if_pos k2] at hc; simp at hc
  rw [if_neg k2] at hc ⊢
  by_cases k3 : N.jts[j].kind = 3 ∧ i = 0
  · rw [if_pos k3]
    have hne : ¬ xs[j] = 0 := fun e => k2 ⟨k3.1, e⟩
    have hlt : xs[j].toNat < N.jts[j].ends.length := by omega
    simp only [List.getElem?_eq_getElem hlt, Option.getD_some]
    have h12 : xs[j].toNat = 1 ∨ xs[j].toNat = 2 := by omega
    unfold acr
    rw [if_neg (by omega), if_pos k3.1, if_pos k3.2, List.mem_append]
    rcases h12 with h | h
    · left
      simp only [h] at hlt ⊢
      simp [List.getElem?_eq_getElem hlt]
    · right
      simp only [h] at hlt ⊢
      simp [List.getElem?_eq_getElem hlt]
  rw [if_neg k3] at hc ⊢
  by_cases k4 : N.jts[j].kind = 3 ∧ (i : Int) ≠ xs[j]
  · rw [if_pos k4] at hc; simp at hc
  rw [if_neg k4]
  have hpos : 0 < (acr N.jts[j] i).length := by
    unfold acr
    by_cases q2 : N.jts[j].kind = 2
    · have : 1 - i < N.jts[j].ends.length := by omega
      simp [q2, this]
    · by_cases q3 : N.jts[j].kind = 3
      · have h0 : i ≠ 0 := fun e => k3 ⟨q3, e⟩
        have : 0 < N.jts[j].ends.length := by omega
        simp [q3, h0, this]
      · have q4 : N.jts[j].kind = 4 := by omega
        have : (if i = 0 then 1 else if i = 1 then 0 else if i = 2 then 3 else 2) < N.jts[j].ends.length := by split; omega; split; omega; split <;> omega
        simp [q4, this]
  simp only [List.getElem?_eq_getElem hpos, Option.getD_some]
  exact List.getElem_mem hpos
/-- Where a drive has come to, as a way. -/
def OnW (N : Nt) (hr : netOk N = (0, 0)) (s : Int × Int) (room : Int) (f q a wy : Int) : Prop :=
  ((q, wy) = s ∧ f + roomP N q a wy = room) ∨ ∃ y, ToW (grN N hr) s room (q, wy) y ∧ y.far + (lenAt N q - roomP N q a wy) = f
theorem room_go {N : Nt} {q a wy t : Int} (h : spotP N q a wy = true) : roomP N q (a + t * wy) wy = roomP N q a wy - t := by
  rcases spot_way h with rfl | rfl
  · unfold roomP; simp; omega
  · unfold roomP; simp; omega
theorem onW_go {N : Nt} {hr : netOk N = (0, 0)} {s : Int × Int} {room f q a wy t : Int} (hs : spotP N q a wy = true) (h : OnW N hr s room f q a wy) : OnW N hr s room (f + t) q (a + t * wy) wy := by
  unfold OnW
  rw [room_go hs]
  rcases h with ⟨h1, h2⟩ | ⟨y, h1, h2⟩
  · exact .inl ⟨h1, by omega⟩
  · exact .inr ⟨y, h1, by omega⟩
theorem onW_over {N : Nt} {hr : netOk N = (0, 0)} {s : Int × Int} {room f q a wy : Int} (h0 : roomP N q a wy = 0) (h : OnW N hr s room f q a wy) {e : Int × Int} (he : e ∈ nxP N (headP q wy)) : OnW N hr s room f (enterP N e).1 (enterP N e).2.1 (enterP N e).2.2 := by
  have hst := enter_step (N := N) (e := e)
  have hrm : roomP N (enterP N e).1 (enterP N e).2.1 (enterP N e).2.2 = lenAt N e.1 := by
    unfold enterP roomP
    split <;> simp
  have hq : (enterP N e).1 = e.1 := by unfold enterP; split <;> rfl
  have he' : e ∈ (grN N hr).nx (headP q wy) := he
  right
  rcases h with ⟨h1, h2⟩ | ⟨y, h1, h2⟩
  · subst h1
    refine ⟨extW (grN N hr) room ⟨0, [(q, wy)]⟩ (q, wy) e, ?_, ?_⟩
    · rw [hst]
      exact ToW.first he'
    · rw [hrm, hq]
      have hcst : costW (grN N hr) room ⟨0, [(q, wy)]⟩ (q, wy) = room := by simp [costW]
      show 0 + costW (grN N hr) room ⟨0, [(q, wy)]⟩ (q, wy) + _ = f
      rw [hcst]
      omega
  · refine ⟨extW (grN N hr) room y (q, wy) e, ?_, ?_⟩
    · rw [hst]
      exact h1.step he'
    · rw [hrm, hq]
      show y.far + costW (grN N hr) room y (q, wy) + _ = f
      unfold costW
      have h3 := h1.two
      rw [if_neg (by omega)]
      show y.far + lenAt N q + _ = f
      omega
theorem drive_onW {N : Nt} {xs : List Int} {far : Int} (hr : netOk N = (0, 0)) (hl : liesP N.jts xs = true) {s : Int × Int} {room f q a wy : Int} {ov : Nat} {ps : List (Int × Int × Int)} {r : DRes} (h : DriveR N xs far f q a wy ov ps r) : spotP N q a wy = true → OnW N hr s room f q a wy → r.code = 0 → OnW N hr s room r.far r.q r.at' r.way ∧ spotP N r.q r.at' r.way = true := by
  induction h with
  | done h => exact fun hs ho _ => ⟨ho, hs⟩
  | stop hj hx h hrm hat hc => exact fun _ _ h0 => absurd h0 hc
  | many hj hx h hrm hat hc ho => exact fun _ _ h0 => by cases h0
  | over hj hx h hrm hat hc ho n ih => exact fun hs hon h0 => ih (enterP_ok hr (overP_ok hr hl hj hx hat hc)) (onW_over hrm hon (over_mem hr hl hj hx hat hc)) h0
  | @go f q a wy ov ps r h hrm n ih =>
    intro hs hon h0
    refine ih ?_ (onW_go hs hon) h0
    have hr0 : 0 ≤ roomP N q a wy := by
      have h' := hs
      simp only [spotP, inR, Bool.and_eq_true, decide_eq_true_eq] at h'
      unfold roomP
      split <;> omega
    refine spot_go hs ?_ ?_
    · unfold stepP; split <;> omega
    · unfold stepP; split <;> omega
theorem drive_far {N : Nt} {xs : List Int} {far f q a wy : Int} {ov : Nat} {ps : List (Int × Int × Int)} {r : DRes} (h : DriveR N xs far f q a wy ov ps r) : f ≤ far → r.code = 0 → r.far = far := by
  induction h with
  | done h => exact fun hf _ => by dsimp only; omega
  | stop hj hx h hrm hat hc => exact fun _ h0 => absurd h0 hc
  | many hj hx h hrm hat hc ho => exact fun _ h0 => by cases h0
  | over hj hx h hrm hat hc ho n ih => exact ih
  | go h hrm n ih =>
    intro hf h0
    refine ih ?_ h0
    unfold stepP
    split <;> omega
end Go.Proofs.YtijdigdcmjdooaaGreat

/- Ways turned round: plain. Own work. -/
namespace Go.Proofs.YtijdigdcmjdooaaGreat
set_option maxHeartbeats 1000000

/-- What lies behind an end lies behind it from there, too. -/
theorem acr_back {N : Nt} (hr : netOk N = (0, 0)) {h e : Int × Int} {j i : Nat} (hat : At N.jts h j i) (hj : j < N.jts.length) (he : e ∈ acr N.jts[j] i) : h ∈ nxP N e := by
  have hB3 : jb3 N.pcs.length N.jts[j] = false := by rw [← jtBad3_jb3 hj]; exact (right_facts hr).2.2.1 j hj
  obtain ⟨⟨hk1, hk4⟩, hkl⟩ := jb3_len hB3
  obtain ⟨_, hil, hih⟩ := hat
  have key : ∀ i' (hi' : i' < N.jts[j].ends.length), N.jts[j].ends[i'] = e → h ∈ acr N.jts[j] i' → h ∈ nxP N e := fun i' hi' e1 e2 => by
    rw [nx_at hr (e := e) (j := j) (i := i') ⟨hj, hi', e1⟩ hj]
    exact e2
  unfold acr at he
  by_cases k2 : N.jts[j].kind = 2
  · rw [if_pos k2] at he
    have hl : N.jts[j].ends.length = 2 := by omega
    simp only [Option.mem_toList, List.getElem?_eq_some_iff] at he
    obtain ⟨hlt, he⟩ := he
    refine key (1 - i) hlt he ?_
    unfold acr
    rw [if_pos k2]
    simp only [Option.mem_toList, List.getElem?_eq_some_iff]
    have e3 : 1 - (1 - i) = i := by omega
    simp only [e3]
    exact ⟨hil, hih⟩
  · rw [if_neg k2] at he
    by_cases k3 : N.jts[j].kind = 3
    · rw [if_pos k3] at he
      have hl : N.jts[j].ends.length = 3 := by omega
      by_cases hi0 : i = 0
      · rw [if_pos hi0, List.mem_append] at he
        simp only [Option.mem_toList, List.getElem?_eq_some_iff] at he
        subst hi0
        rcases he with ⟨hlt, he⟩ | ⟨hlt, he⟩
        · refine key 1 hlt he ?_
          unfold acr
          rw [if_neg k2, if_pos k3, if_neg (by omega)]
          simp only [Option.mem_toList, List.getElem?_eq_some_iff]
          exact ⟨hil, hih⟩
        · refine key 2 hlt he ?_
          unfold acr
          rw [if_neg k2, if_pos k3, if_neg (by omega)]
          simp only [Option.mem_toList, List.getElem?_eq_some_iff]
          exact ⟨hil, hih⟩
      · rw [if_neg hi0] at he
        simp only [Option.mem_toList, List.getElem?_eq_some_iff] at he
        obtain ⟨hlt, he⟩ := he
        refine key 0 hlt he ?_
        unfold acr
        rw [if_neg k2, if_pos k3, if_pos rfl, List.mem_append]
        simp only [Option.mem_toList, List.getElem?_eq_some_iff]
        have h12 : i = 1 ∨ i = 2 := by omega
        rcases h12 with rfl | rfl
        · exact .inl ⟨hil, hih⟩
        · exact .inr ⟨hil, hih⟩
    · rw [if_neg k3] at he
      by_cases k4 : N.jts[j].kind = 4
      · rw [if_pos k4] at he
        have hl : N.jts[j].ends.length = 4 := by omega
        simp only [Option.mem_toList, List.getElem?_eq_some_iff] at he
        obtain ⟨hlt, he⟩ := he
        refine key _ hlt he ?_
        unfold acr
        rw [if_neg k2, if_neg k3, if_pos k4]
        simp only [Option.mem_toList, List.getElem?_eq_some_iff]
        have e3 : (if (if i = 0 then 1 else if i = 1 then 0 else if i = 2 then 3 else 2) = 0 then 1 else if (if i = 0 then 1 else if i = 1 then 0 else if i = 2 then 3 else 2) = 1 then 0 else if (if i = 0 then 1 else if i = 1 then 0 else if i = 2 then 3 else 2) = 2 then 3 else 2) = i := by
          have h4 : i = 0 ∨ i = 1 ∨ i = 2 ∨ i = 3 := by omega
          rcases h4 with rfl | rfl | rfl | rfl <;> rfl
        simp only [e3]
        exact ⟨hil, hih⟩
      · rw [if_neg k4] at he
        simp at he
theorem nx_back {N : Nt} (hr : netOk N = (0, 0)) {h e : Int × Int} (he : e ∈ nxP N h) (hok : endOk N.pcs.length h = true) : h ∈ nxP N e := by
  obtain ⟨j, i, hat⟩ := at_of_uses (js := N.jts) (e := h) (by rw [uses_right hr hok]; exact Nat.le_refl _)
  have hj := hat.1
  rw [nx_at hr hat hj] at he
  exact acr_back hr hat hj he
/-- Over one joint or more, and how long the pieces between are. -/
inductive Rch (G : Gr) (s : Int × Int) : Int × Int → Int → Prop
  | one {e : Int × Int} (he : e ∈ G.nx (headP s.1 s.2)) : Rch G s (stepOf e) 0
  | more {u e : Int × Int} {c : Int} (h : Rch G s u c) (he : e ∈ G.nx (headP u.1 u.2)) : Rch G s (stepOf e) (c + G.len u.1)
theorem rch_of {G : Gr} {s : Int × Int} {room : Int} {y : Wy} (h : WayR G s room y) : ∀ {t}, ToW G s room t y → Rch G s t (y.far - room) := by
  induction h with
  | base => exact fun h => by have := h.two; simp at this
  | @more y u e hy hu he ih =>
    intro t ht
    have hl := ht.last
    rw [extW_last] at hl
    obtain rfl := Option.some.inj hl
    by_cases h1 : y.ss.length = 1
    · have hb : y = ⟨0, [s]⟩ ∧ u = s := by
        cases hy with
        | base => exact ⟨rfl, by simpa using hu.symm⟩
        | more h' _ _ =>
          have := h'.pos
          rw [extW_len] at h1
          omega
      obtain ⟨rfl, rfl⟩ := hb
      have e0 : (extW G room ⟨0, [u]⟩ u e).far - room = 0 := by
        have hcst : costW G room ⟨0, [u]⟩ u = room := by simp [costW]
        show 0 + costW G room ⟨0, [u]⟩ u - room = 0
        rw [hcst]
        omega
      rw [e0]
      exact .one he
    · have hp := hy.pos
      have hr := ih (t := u) ⟨hy, hu, by omega⟩
      have e0 : (extW G room y u e).far - room = y.far - room + G.len u.1 := by
        show y.far + costW G room y u - room = _
        unfold costW
        rw [if_neg h1]
        omega
      rw [e0]
      exact .more hr he
theorem of_rch {G : Gr} {s : Int × Int} {room : Int} {t : Int × Int} {c : Int} (h : Rch G s t c) : ∃ y, ToW G s room t y ∧ y.far = room + c := by
  induction h with
  | one he =>
    refine ⟨_, ToW.first he, ?_⟩
    have hcst : costW G room ⟨0, [s]⟩ s = room := by simp [costW]
    show 0 + costW G room ⟨0, [s]⟩ s = _
    rw [hcst]
    omega
  | @more u e c h he ih =>
    obtain ⟨y, hy, hf⟩ := ih
    refine ⟨_, hy.step he, ?_⟩
    show y.far + costW G room y u = _
    unfold costW
    have := hy.two
    rw [if_neg (by omega)]
    omega
theorem Rch.front {G : Gr} {v e : Int × Int} (he : e ∈ G.nx (headP v.1 v.2)) {t : Int × Int} {c : Int} (h : Rch G (stepOf e) t c) : Rch G v t (G.len e.1 + c) := by
  induction h with
  | one h' =>
    have h2 := Rch.more (Rch.one he) h'
    have e1 : (0 : Int) + G.len (stepOf e).1 = G.len e.1 + 0 := by simp [stepOf]
    rw [← e1]
    exact h2
  | more h h' ih =>
    rw [← Int.add_assoc]
    exact .more ih h'
def flipS (s : Int × Int) : Int × Int := (s.1, -s.2)
theorem step_back {s : Int × Int} (h : s.2 = 1 ∨ s.2 = -1) : stepOf (headP s.1 s.2) = flipS s := by
  unfold stepOf headP flipS
  rcases h with h | h <;> simp [h]
theorem head_back' {n : Nat} {e : Int × Int} (h : endOk n e = true) : headP (flipS (stepOf e)).1 (flipS (stepOf e)).2 = e := by
  simp only [endOk, inR, Bool.and_eq_true, decide_eq_true_eq] at h
  unfold flipS stepOf headP
  dsimp only
  by_cases h0 : e.2 = 0
  · rw [if_pos h0, if_neg (by omega)]; exact Prod.ext rfl h0.symm
  · rw [if_neg h0, if_pos (by omega)]; exact Prod.ext rfl (by dsimp only; omega)
theorem rch_back {N : Nt} (hr : netOk N = (0, 0)) {s t : Int × Int} {c : Int} (h : Rch (grN N hr) s t c) (hs : stepOk N.pcs.length s = true) : Rch (grN N hr) (flipS t) (flipS s) c ∧ stepOk N.pcs.length t = true := by
  have hok : ∀ {e : Int × Int}, endOk N.pcs.length e = true → stepOk N.pcs.length (stepOf e) = true := fun {e} he => by
    obtain ⟨⟨h1, h2⟩, h3⟩ := stepOf_ok he
    simp only [stepOk, inR, Bool.and_eq_true, decide_eq_true_eq, Bool.or_eq_true, beq_iff_eq]
    omega
  have hwy : ∀ {u : Int × Int}, stepOk N.pcs.length u = true → u.2 = 1 ∨ u.2 = -1 := fun {u} hu => by
    simp only [stepOk, inR, Bool.and_eq_true, decide_eq_true_eq, Bool.or_eq_true, beq_iff_eq] at hu
    exact hu.2
  induction h with
  | @one e he =>
    have hE : endOk N.pcs.length e = true := (grN N hr).ok _ _ he
    refine ⟨?_, hok hE⟩
    rw [← step_back (hwy hs)]
    refine .one ?_
    rw [head_back' hE]
    exact nx_back hr he (stepOk_ends hs).1
  | @more u e c h he ih =>
    obtain ⟨ih1, hu⟩ := ih
    have hE : endOk N.pcs.length e = true := (grN N hr).ok _ _ he
    refine ⟨?_, hok hE⟩
    have hb : headP u.1 u.2 ∈ (grN N hr).nx (headP (flipS (stepOf e)).1 (flipS (stepOf e)).2) := by
      rw [head_back' hE]
      exact nx_back hr he (stepOk_ends hu).1
    rw [← step_back (hwy hu)] at ih1
    have h2 := Rch.front hb ih1
    have e1 : (headP u.1 u.2).1 = u.1 := by unfold headP; split <;> rfl
    rw [e1, Int.add_comm] at h2
    exact h2
/-- The best way turned round is as long, but for the two rooms. -/
theorem best_back {N : Nt} (hr : netOk N = (0, 0)) {s t : Int × Int} {room room' : Int} (h0' : 0 ≤ room') (hs : stepOk N.pcs.length s = true) {y : Wy} (h : bestO (grN N hr) s room t = some y) : ∃ y', bestO (grN N hr) (flipS t) room' (flipS s) = some y' ∧ y'.far - room' ≤ y.far - room := by
  have hw := bestO_way h
  have hR := (rch_back hr (rch_of hw.way hw) hs).1
  obtain ⟨y1, hy1, hf1⟩ := of_rch (room := room') hR
  cases hb : bestO (grN N hr) (flipS t) room' (flipS s) with
  | none =>
    exact absurd hy1 (bestO_none' h0' hb y1)
  | some y' =>
    refine ⟨y', rfl, ?_⟩
    have hle := bestO_le hb hy1
    have := le_far hle
    omega
end Go.Proofs.YtijdigdcmjdooaaGreat
