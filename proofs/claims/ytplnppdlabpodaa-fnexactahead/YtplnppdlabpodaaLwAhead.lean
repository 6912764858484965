/- The law FnExactAhead's walk, over whatever impl.Ahead answers as it should. Own work. -/
import Derived.Test.YtplnppdlabpodaaLwH
namespace Go.Proofs.Ytplnppdlabpodaa
open Go.RowKit
set_option maxHeartbeats 8000000

/-- impl.Ahead answers as it should. -/
def AheadDone : Prop := ∀ (a a' z : Option Addr) (N : Nt) (cap cap' zc : Nat) (xs : List Int) (q at' way far : Int) (w : World), Wf3 q at' way → (Lit.int .i64 far).wf = true → (∀ x ∈ xs, (Lit.int .i64 x).wf = true) → N.pcs.length ≤ 1048576 → (∀ p ∈ N.pcs, p.name.size ≤ 1048576) → N.jts.length ≤ 1048576 → (∀ j ∈ N.jts, j.name.size ≤ 1048576 ∧ j.ends.length ≤ 1048576) → xs.length ≤ 1048576 → PcsAt w a N.pcs → JtsAt w a' N.jts → IntsAt w z xs →
    Calls Try.prog 41 #[.agg #[.slice a N.pcs.length cap, .slice a' N.jts.length cap'], .slice z xs.length zc, .agg #[.int .i64 q, .int .i64 at', .int .i64 way], .int .i64 far] w fun e w' =>
    ∃ ps, AheadR N xs q at' way far ps ∧ ∃ v, e = .returned v ∧ w'.ownsRow w.heap.size 119 3 v ps.length (partCells ps) ∧ Below w.heap.size w w'

theorem keep88 {w w1 w2 w3 : World} {v0 v1 u0 u1 : Value} {q at' way : Int} {b : Nat} (hb : Below w2.heap.size w2 w3) (h : LS2 w w w2 v0 v1 q at' way b u0 u1 ∧ Hid (Below w1.heap.size w1 w2)) : LS2 w w w3 v0 v1 q at' way b u0 u1 ∧ Hid (Below w1.heap.size w1 w3) :=
  ⟨keepL2 hb h.1, h.2.out.trans (hb.mono h.2.out.size)⟩

theorem keep19 {w w1 w2 w3 : World} {v0 v1 : Value} {q at' way : Int} (hb : Below w2.heap.size w2 w3) (h : LS w w w2 v0 v1 q at' way ∧ Hid (Below w1.heap.size w1 w2)) : LS w w w3 v0 v1 q at' way ∧ Hid (Below w1.heap.size w1 w3) :=
  ⟨keepL hb h.1, h.2.out.trans (hb.mono h.2.out.size)⟩

theorem fnAhead_walk (hdone : AheadDone) (a a' zl : Option Addr) (N : Nt) (cap cap' zlc : Nat) (xs : List Int) (q at' way far : Int) (w : World) (hwf : Wf3 q at' way) (hff : (Lit.int .i64 far).wf = true) (hxw : ∀ x ∈ xs, (Lit.int .i64 x).wf = true) (hp : PcsAt w a N.pcs) (hj : JtsAt w a' N.jts) (hz : IntsAt w zl xs) (hn : N.pcs.length ≤ maxLen ∧ ∀ p ∈ N.pcs, p.name.size ≤ maxLen) (hl : N.jts.length ≤ maxLen ∧ ∀ j ∈ N.jts, j.name.size ≤ maxLen ∧ j.ends.length ≤ maxLen) (hx : xs.length ≤ maxLen) :
    Calls Try.prog 9 #[.agg #[.slice a N.pcs.length cap, .slice a' N.jts.length cap'], .slice zl xs.length zlc, .agg #[.int .i64 q, .int .i64 at', .int .i64 way], .int .i64 far] w fun e w' =>
    e = .returned (.bool true) ∧ Below w.heap.size w w' := by
  have HD := hide hdone
  have HP := hide hp
  have HJ := hide hj
  have HZ := hide hz
  have HN := hide hn
  have HL := hide hl
  have HWF := hide (And.intro hwf (And.intro hff hxw))
  have hxm : (xs.length : Int) ≤ 9223372036854775807 := by unfold maxLen at hx; omega
  clear hp hj hz hn hl hwf hff hxw hdone hx
  have hbW : Below w.heap.size w ((w.alloc (.cells #[.slice a N.pcs.length cap, .slice a' N.jts.length cap'] 25)).alloc (.cells #[.int .i64 q, .int .i64 at', .int .i64 way] 50)) := ((Below.refl _ _).alloc (Nat.le_refl _) _).alloc (by simp) _
  by_cases hxl : (1048576 : Int) < (xs.length : Int)
  · go_enter Try.func9, Try.ntmps9
    go_wp2_with fail
    go_ret
    exact ⟨rfl, hbW⟩
  have hxs : xs.length ≤ 1048576 := by omega
  have hxd : decide ((1048576 : Int) < (xs.length : Int)) = false := by rw [decide_eq_false_iff_not]; exact hxl
  go_enter Try.func9, Try.ntmps9
  go_wp2_with fail
  refine (szNet_any a a' N cap cap' 1048576 _ HN.out.1 (HP.out.later hbW) HN.out.2 HL.out.1 (HJ.out.later hbW) HL.out.2 (by omega) (by omega)).mono ?_
  rintro e w1 ⟨r, rfl, hr1, hr2, hr3, hb1⟩
  obtain ⟨hc, hf⟩ := bcell hb1
  have hB1 := hbW.trans (hb1.mono hbW.size)
  have t0 : w1.cell? ⟨w.heap.size, 0, none⟩ = some (.slice a N.pcs.length cap) := by rw [hc _ _ (by simp; omega)]; simp [go_sem]
  have t1 : w1.cell? ⟨w.heap.size, 1, none⟩ = some (.slice a' N.jts.length cap') := by rw [hc _ _ (by simp; omega)]; simp [go_sem]
  have e0 : w1.cell? ⟨w.heap.size + 1, 0, none⟩ = some (.int .i64 q) := by rw [hc _ _ (by simp)]; simp [go_sem]
  have e1 : w1.cell? ⟨w.heap.size + 1, 1, none⟩ = some (.int .i64 at') := by rw [hc _ _ (by simp)]; simp [go_sem]
  have e2 : w1.cell? ⟨w.heap.size + 1, 2, none⟩ = some (.int .i64 way) := by rw [hc _ _ (by simp)]; simp [go_sem]
  have HLS1 : Hid (LS w w w1 (.slice a N.pcs.length cap) (.slice a' N.jts.length cap') q at' way) := ⟨⟨t0, t1, e0, e1, e2⟩, hB1⟩
  have HR := hide hr3
  clear hr3 hb1 hc hf
  by_cases hr : r < 0
  · go_wp2_with fail
    go_ret
    exact ⟨rfl, hB1⟩
  have hrr : decide (r < 0) = false := by rw [decide_eq_false_iff_not]; exact hr
  obtain ⟨⟨hn, hns⟩, hl, hls⟩ := HR.out (by omega)
  have HNS := hide hns
  have HLS := hide hls
  have HLM := hide (fun j (hj : j ∈ N.jts) => (HLS.out j hj).2)
  clear hns hls hbW
  go_upto_region 7 with fail
  go_region_held3 (fun w' => LS w w w' (.slice a N.pcs.length cap) (.slice a' N.jts.length cap') q at' way)
    (first
      | (exact keepL ((Below.refl w1.heap.size w1).drew) HLS1.out)
      | (exact keepL (by assumption) (by assumption)))
    (first
      | (go_at_call 16; refine (toNet_any a a' N cap cap' _ hn (HP.out.later (heldB (by assumption))) hl HLM.out (HJ.out.later (heldB (by assumption)))).mono ?_; rintro e w2 ⟨b1, b2, rfl, hO, hbN⟩)
      | (go_at_call 36; refine (toIntS_any zl xs zlc _ hxs (HZ.out.later (heldB (by assumption)))).mono ?_; rintro e w3 ⟨rfl, hRI, hI, hbI⟩)
      | (go_at_call 30; refine (toSpot_any _ _ _ _).mono ?_; rintro e w4 ⟨rfl, hbE⟩)
      | (go_at_call 40; refine (specAhead_any _ _ _ N _ _ _ xs _ _ _ _ _ hn HNS.out hl HLS.out hxs (hO.later (chn hbI hbE)).2.2.2.1 (hO.later (chn hbI hbE)).2.2.2.2.at (hI.later hbE)).mono ?_; rintro e w5 ⟨ps, hAR, hpl, v, rfl, how, hbJ⟩))
  rename_i hH
  have HLS5 := hide hH
  have HAR := hide hAR
  have hps : ps.length ≤ 1048576 := by omega
  obtain ⟨z, zc, rfl, hNP⟩ := newParts how
  have HZP := hide hNP.1
  have HZB := hide (show ∀ b off, z = some ⟨b, off, none⟩ → ps.length = 0 ∨ b < w5.heap.size from fun b off h => (hNP.lt b off h).imp id (fun h => h.2))
  have hw5 : w.heap.size + 1 < w5.heap.size := cell_lt hH.1.2.2.1
  clear hH hAR how hNP hbJ hbE hbI hbN hO hRI hI hpl
  have hB5 := heldB HLS5.out
  obtain ⟨t0, t1, e0, e1, e2⟩ := HLS5.out.1
  clear HLS1
  go_wp2_with fail
  refine (toNet_any a a' N cap cap' _ hn (HP.out.later hB5) hl HLM.out (HJ.out.later hB5)).mono ?_
  rintro e w6 ⟨c1, c2, rfl, hO, hb6⟩
  have hc1 := hO.1
  have hc2 := hO.2.1
  have HRJ := hide hO.2.2.2.2.rows
  have h56 := hb6.size
  have hA := (Below.refl w6.heap.size w6).alloc (Nat.le_refl _) (.cells #[.slice (some ⟨c1, 0, none⟩) N.pcs.length N.pcs.length, .slice (some ⟨c2, 0, none⟩) N.jts.length N.jts.length] 33)
  have v0 := new_cell w6 #[.slice (some ⟨c1, 0, none⟩) N.pcs.length N.pcs.length, .slice (some ⟨c2, 0, none⟩) N.jts.length N.jts.length] 33 0 _ rfl
  have v1 := new_cell w6 #[.slice (some ⟨c1, 0, none⟩) N.pcs.length N.pcs.length, .slice (some ⟨c2, 0, none⟩) N.jts.length N.jts.length] 33 1 _ rfl
  have hs7 : w6.heap.size < (w6.alloc (.cells #[.slice (some ⟨c1, 0, none⟩) N.pcs.length N.pcs.length, .slice (some ⟨c2, 0, none⟩) N.jts.length N.jts.length] 33)).heap.size := by simp
  have HLS7 := hide (keepL (chn hb6 hA) HLS5.out)
  have HO7 := hide (hO.later hA)
  have HRJ := hide (HRJ.out.later hA)
  have HZP := hide (HZP.out.later (chn hb6 hA))
  clear hO hA hb6 HLS5 t0 t1 e0 e1 e2 hB5
  go_wp2_with fail
  generalize w6.alloc (.cells #[.slice (some ⟨c1, 0, none⟩) N.pcs.length N.pcs.length, .slice (some ⟨c2, 0, none⟩) N.jts.length N.jts.length] 33) = w7 at *
  refine (toIntS_any zl xs zlc _ hxs (HZ.out.later (heldB HLS7.out))).mono ?_
  rintro e w8 ⟨rfl, hRI, hI, hb8⟩
  have h78 := hb8.size
  have HLS8 := hide (keepL hb8 HLS7.out)
  have HO8 := hide (HO7.out.later hb8)
  have HRJ := hide (HRJ.out.later hb8)
  have HZP := hide (HZP.out.later hb8)
  have HRI := hide hRI
  have HI8 := hide hI
  have v0 := cell_later' hb8 v0
  have v1 := cell_later' hb8 v1
  have hi7 : w7.heap.size < w8.heap.size := by obtain ⟨f, hf⟩ := hRI; exact hf.lt
  clear hRI hI hb8 HLS7 HO7
  have h88 : Below w8.heap.size w8 w8.drew := (Below.refl _ _).drew
  go_upto_region 10 with fail
  go_region_held3 (fun w' => LS2 w w w' (.slice a N.pcs.length cap) (.slice a' N.jts.length cap') q at' way w6.heap.size (.slice (some ⟨c1, 0, none⟩) N.pcs.length N.pcs.length) (.slice (some ⟨c2, 0, none⟩) N.jts.length N.jts.length) ∧ Hid (Below w8.heap.size w8 w'))
    (first
      | (exact ⟨⟨keepL h88 HLS8.out, cell_later' h88 v0, cell_later' h88 v1⟩, h88⟩)
      | (exact keep88 (by assumption) (by assumption)))
    (first
      | (go_at_call 30; refine (toSpot_any _ _ _ _).mono ?_; rintro e w9 ⟨rfl, hbE⟩)
      | (go_at_call 41; refine (HD.out _ _ _ N _ _ _ xs _ _ _ _ _ HWF.out.1 HWF.out.2.1 HWF.out.2.2 hn HNS.out hl HLS.out hxs (HO8.out.later (chn h88 hbE)).2.2.2.1 (HO8.out.later (chn h88 hbE)).2.2.2.2.at (HI8.out.later (chn h88 hbE))).mono ?_; rintro e w10 ⟨ps', hAR', v, rfl, how, hbJ⟩))
  rename_i hH
  obtain rfl := ahead_one HAR.out hAR'
  obtain ⟨y, yc, rfl, hNP⟩ := newParts (owns_low how (base' := w8.heap.size) hbE.size)
  have HYP := hide hNP
  have h8x := hH.2.out
  have h810 := h8x.size
  have HLS10 := hide hH.1.1
  have v0 := hH.1.2.1
  have v1 := hH.1.2.2
  have HO10 := hide (HO8.out.later h8x)
  have HRJ := hide (HRJ.out.later h8x)
  have HZP := hide (HZP.out.later h8x)
  have HRI := hide (HRI.out.later h8x)
  have HI10 := hide (HI8.out.later h8x)
  clear hH hAR' how hNP hbJ hbE h8x HLS8 HO8 HI8 h88
  obtain ⟨t0, t1, e0, e1, e2⟩ := HLS10.out.1
  go_wp2_with fail
  refine (eqPartS_same y z ps yc zc _ hps HYP.out.1 HZP.out).mono ?_
  rintro e w11 ⟨rfl, hb11⟩
  have HLS11 := hide (keepL hb11 HLS10.out)
  have HO11 := hide (HO10.out.later hb11)
  have HRJ := hide (HRJ.out.later hb11)
  have HZP := hide (HZP.out.later hb11)
  have HYP := hide (HYP.out.later hb11)
  have HRI := hide (HRI.out.later hb11)
  have HI11 := hide (HI10.out.later hb11)
  have v0 := cell_later' hb11 v0
  have v1 := cell_later' hb11 v1
  have h1011 := hb11.size
  clear hb11 HLS10 HO10 HI10 t0 t1 e0 e1 e2
  have h11 : Below w11.heap.size w11 w11.drew := (Below.refl _ _).drew
  go_upto_region 13 with fail
  go_region_held3 (fun w' => LS2 w w w' (.slice a N.pcs.length cap) (.slice a' N.jts.length cap') q at' way w6.heap.size (.slice (some ⟨c1, 0, none⟩) N.pcs.length N.pcs.length) (.slice (some ⟨c2, 0, none⟩) N.jts.length N.jts.length) ∧ Hid (Below w11.heap.size w11 w'))
    (first
      | (exact ⟨⟨keepL h11 HLS11.out, cell_later' h11 v0, cell_later' h11 v1⟩, h11⟩)
      | (exact keep88 (by assumption) (by assumption)))
    (first
      | (go_at_call 16; refine (toNet_any a a' N cap cap' _ hn (HP.out.later (heldB HLS11.out |>.trans (h11.mono (heldB HLS11.out).size))) hl HLM.out (HJ.out.later (heldB HLS11.out |>.trans (h11.mono (heldB HLS11.out).size)))).mono ?_; rintro e w12 ⟨d1, d2, rfl, hO12, hb12⟩)
      | (go_at_call 19; refine (eqNet_same _ _ _ _ N _ _ _ _ _ hn hl HLM.out (HO11.out.later (chn h11 hb12)).2.2.2.1 hO12.2.2.2.1 (HO11.out.later (chn h11 hb12)).2.2.2.2.at hO12.2.2.2.2.at).mono ?_; rintro e w13 ⟨rfl, hb13⟩))
  rename_i hH
  have h13 := hH.2.out
  have h1113 := h13.size
  have HLS13 := hide hH.1.1
  have v0 := hH.1.2.1
  have v1 := hH.1.2.2
  have HR1 := hide (HO11.out.2.2.1.later h13)
  have HRJ := hide (HRJ.out.later h13)
  have HZP := hide (HZP.out.later h13)
  have HYP := hide (HYP.out.later h13)
  have HRI := hide (HRI.out.later h13)
  have HI13 := hide (HI11.out.later h13)
  clear hH h13 hb12 hb13 hO12 HLS11 HO11 HI11 h11
  obtain ⟨t0, t1, e0, e1, e2⟩ := HLS13.out.1
  go_wp2_with fail
  refine (toIntS_any zl xs zlc _ hxs (HZ.out.later (heldB HLS13.out))).mono ?_
  rintro e w14 ⟨rfl, _, hI14, hb14⟩
  have HI14 := hide hI14
  have HJ14 := hide (HI13.out.later hb14)
  clear hI14 HI13
  go_wp2_with fail
  refine (eqIntS_same _ _ xs _ _ _ hxs HJ14.out HI14.out).mono ?_
  rintro e w15 ⟨rfl, hb15⟩
  have h1315 := chn hb14 hb15
  have HLS15 := hide (keepL h1315 HLS13.out)
  have HR1 := hide (HR1.out.later h1315)
  have HRJ := hide (HRJ.out.later h1315)
  have HZP := hide (HZP.out.later h1315)
  have HYP := hide (HYP.out.later h1315)
  have HRI := hide (HRI.out.later h1315)
  have v0 := cell_later' h1315 v0
  have v1 := cell_later' h1315 v1
  have hs15 := h1315.size
  clear h1315 hb14 hb15 HLS13 HI14 HJ14 t0 t1 e0 e1 e2
  go_wp2_with fail
  refine (markNet_any w5.heap.size c1 c2 w6.heap.size _ _ N 1 _ hn hl HLM.out (by omega) (by omega) hc1 hc2 HR1.out HRJ.out).mono ?_
  rintro e w16 ⟨k', rfl, hk', hm16⟩
  have hs16 := hm16.size
  have HLS16 := hide (HLS15.out.mid hm16 hw5 (by omega))
  have HZP := hide (HZP.out.mid hm16 (fun b off h => (HZB.out b off h).imp id (fun h => .inl h)))
  have HYP := hide (HYP.out.mid hm16 (fun b _ _ h => .inr (by omega)))
  have HRI := hide (hm16.row (.inr (by omega)) HRI.out)
  clear hm16 HR1 HRJ HLS15 v0 v1
  go_wp2_with fail
  refine (markIntS_any w7.heap.size xs.length _ k' _ hxs (by omega) (by omega) HRI.out).mono ?_
  rintro e w17 ⟨rfl, hm17, _⟩
  have hs17 := hm17.size
  have HLS17 := hide (HLS16.out.mid hm17 (by omega) (by omega))
  have HZP := hide (HZP.out.mid hm17 (fun b off h => (HZB.out b off h).imp id (fun h => .inl (by omega))))
  have HYP := hide (HYP.out.mid hm17 (fun b _ _ h => .inr (by omega)))
  have hk2 : decide (k' + (xs.length : Int) < 0) = false := by rw [decide_eq_false_iff_not]; omega
  clear hm17 HRI HLS16
  go_wp2_with fail
  refine (eqPartS_same y z ps yc zc _ hps HYP.out.1 HZP.out).mono ?_
  rintro e w18 ⟨rfl, hb18⟩
  have hs18 := hb18.size
  have HLS18 := hide (keepL hb18 HLS17.out)
  have HZP := hide (HZP.out.later hb18)
  have HYP := hide (HYP.out.later hb18)
  clear hb18 HLS17
  go_wp2_with fail
  refine (markParts_own yc HYP.out hps).mono ?_
  rintro e w19 ⟨rfl, hm19, hmk⟩
  have hs19 := hm19.size
  have HLS19 := hide (HLS18.out.mid hm19 (by omega) (by omega))
  have HZP := hide (HZP.out.mid hm19 (fun b off h => (HZB.out b off h).imp id (fun h => .inl (by omega))))
  have HMK := hide hmk
  clear hm19 hmk HYP HLS18
  go_wp2_with fail
  refine (heldParts_own yc HMK.out hps).mono ?_
  rintro e w19' ⟨rfl, rfl⟩
  have hq1 : ((1 + 3 * (ps.length : Int)) != 1 + 3 * (ps.length : Int)) = false := by simp
  have hq2 : decide (1 + 3 * (ps.length : Int) < 0) = false := by rw [decide_eq_false_iff_not]; omega
  go_upto_region 30 with fail
  go_region_held3 (fun w' => LS w w w' (.slice a N.pcs.length cap) (.slice a' N.jts.length cap') q at' way ∧ Hid (Below w19.heap.size w19 w'))
    (first
      | (exact ⟨keepL ((Below.refl w19.heap.size w19).drew) HLS19.out, (Below.refl w19.heap.size w19).drew⟩)
      | (exact keep19 (by assumption) (by assumption)))
    (first
      | (go_at_call 16; refine (toNet_any a a' N cap cap' _ hn (HP.out.later (heldB (And.left (by assumption : LS w w _ (.slice a N.pcs.length cap) (.slice a' N.jts.length cap') q at' way ∧ Hid (Below w19.heap.size w19 _))))) hl HLM.out (HJ.out.later (heldB (And.left (by assumption : LS w w _ (.slice a N.pcs.length cap) (.slice a' N.jts.length cap') q at' way ∧ Hid (Below w19.heap.size w19 _)))))).mono ?_; rintro e w20 ⟨b1, b2, rfl, hO, hbN⟩)
      | (go_at_call 36; refine (toIntS_any zl xs zlc _ hxs (HZ.out.later (heldB (And.left (by assumption : LS w w _ (.slice a N.pcs.length cap) (.slice a' N.jts.length cap') q at' way ∧ Hid (Below w19.heap.size w19 _)))))).mono ?_; rintro e w21 ⟨rfl, hRI, hI, hbI⟩)
      | (go_at_call 30; refine (toSpot_any _ _ _ _).mono ?_; rintro e w22 ⟨rfl, hbE⟩)
      | (go_at_call 41; refine (HD.out _ _ _ N _ _ _ xs _ _ _ _ _ HWF.out.1 HWF.out.2.1 HWF.out.2.2 hn HNS.out hl HLS.out hxs (hO.later (chn hbI hbE)).2.2.2.1 (hO.later (chn hbI hbE)).2.2.2.2.at (hI.later hbE)).mono ?_; rintro e w23 ⟨ps', hAR', v, rfl, how, hbJ⟩))
  rename_i hH
  obtain rfl := ahead_one HAR.out hAR'
  obtain ⟨x, xc, rfl, hNP⟩ := newParts how
  have HXP := hide hNP.1
  have h1923 := hH.2.out
  have HLS23 := hide hH.1
  have HZP := hide (HZP.out.later h1923)
  have HMK := hide (HMK.out.later h1923)
  clear hH hAR' how hNP hbJ hbE hbI hbN hO hRI hI h1923 HLS19
  go_wp2_with fail
  refine (eqPartS_same x z ps xc zc _ hps HXP.out HZP.out).mono ?_
  rintro e w24 ⟨rfl, hb24⟩
  have hB24 := (heldB HLS23.out).trans (hb24.mono (heldB HLS23.out).size)
  have HMK := hide (HMK.out.later hb24)
  clear hb24
  go_wp2_with fail
  refine (heldParts_own yc HMK.out hps).mono ?_
  rintro e w24' ⟨rfl, rfl⟩
  go_wp2_with fail
  go_ret
  exact ⟨rfl, hB24⟩
end Go.Proofs.Ytplnppdlabpodaa
