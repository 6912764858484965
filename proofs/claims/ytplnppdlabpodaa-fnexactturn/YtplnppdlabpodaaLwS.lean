/- The law FnExactSpotOk's walk, over whatever impl.SpotOk answers as it should. Own work. -/
import Derived.Test.YtplnppdlabpodaaStB
import Derived.Test.YtplnppdlabpodaaLwK
import Derived.Test.YtplnppdlabpodaaRd
import Derived.Deep.RegionHeld3
import Derived.Deep.DeepCutAuto
namespace Go.Proofs.Ytplnppdlabpodaa
open Go.RowKit
set_option maxHeartbeats 2000000

theorem fnSpotOk_walk (hdone : SpotOkDone) (a a' : Option Addr) (N : Nt) (cap cap' : Nat) (q at' way : Int) (w : World) (hwf : Wf3 q at' way) (hp : PcsAt w a N.pcs) (hj : JtsAt w a' N.jts) (hn : N.pcs.length ≤ maxLen ∧ ∀ p ∈ N.pcs, p.name.size ≤ maxLen) (hl : N.jts.length ≤ maxLen ∧ ∀ j ∈ N.jts, j.name.size ≤ maxLen ∧ j.ends.length ≤ maxLen) :
    Calls Try.prog 6 #[.agg #[.slice a N.pcs.length cap, .slice a' N.jts.length cap'], .agg #[.int .i64 q, .int .i64 at', .int .i64 way]] w fun e w' =>
    e = .returned (.bool true) ∧ Below w.heap.size w w' := by
  have HD := hide hdone
  have HP := hide hp
  have HJ := hide hj
  have HN := hide hn
  have HL := hide hl
  have HWF := hide hwf
  clear hp hj hn hl hwf hdone
  go_enter Try.func6, Try.ntmps6
  go_wp2_with fail
  have hbW : Below w.heap.size w ((w.alloc (.cells #[.slice a N.pcs.length cap, .slice a' N.jts.length cap'] 25)).alloc (.cells #[.int .i64 q, .int .i64 at', .int .i64 way] 50)) := ((Below.refl _ _).alloc (Nat.le_refl _) _).alloc (by simp) _
  refine (szNet_any a a' N cap cap' 1048576 _ HN.out.1 (HP.out.later hbW) HN.out.2 HL.out.1 (HJ.out.later hbW) HL.out.2 (by omega) (by omega)).mono ?_
  rintro e w1 ⟨r, rfl, hr1, hr2, hr3, hb1⟩
  obtain ⟨hc, hf⟩ := bcell hb1
  have t0 : w1.cell? ⟨w.heap.size, 0, none⟩ = some (.slice a N.pcs.length cap) := by rw [hc _ _ (by simp; omega)]; simp [go_sem]
  have t1 : w1.cell? ⟨w.heap.size, 1, none⟩ = some (.slice a' N.jts.length cap') := by rw [hc _ _ (by simp; omega)]; simp [go_sem]
  have e0 : w1.cell? ⟨w.heap.size + 1, 0, none⟩ = some (.int .i64 q) := by rw [hc _ _ (by simp)]; simp [go_sem]
  have e1 : w1.cell? ⟨w.heap.size + 1, 1, none⟩ = some (.int .i64 at') := by rw [hc _ _ (by simp)]; simp [go_sem]
  have e2 : w1.cell? ⟨w.heap.size + 1, 2, none⟩ = some (.int .i64 way) := by rw [hc _ _ (by simp)]; simp [go_sem]
  have hB1 := hbW.trans (hb1.mono hbW.size)
  have HR := hide hr3
  clear hr3 hb1 hc hf
  by_cases hr : r < 0
  · go_wp2_with fail
    go_ret
    exact ⟨rfl, hB1⟩
  have hrr : decide (r < 0) = false := by rw [decide_eq_false_iff_not]; exact hr
  obtain ⟨⟨hn, hns⟩, hl, hls⟩ := HR.out (by omega)
  have HNS := hide hns
  have HLS := hide hls
  have HLM := hide (fun j (hj : j ∈ N.jts) => (HLS.out j hj).2)
  clear hns hls
  have h11 : Below w1.heap.size w1 w1.drew := (Below.refl _ _).drew
  have HB1 := hide hB1
  go_upto_region 5 with fail
  go_region_held3 (fun w' => LS w w1 w' (.slice a N.pcs.length cap) (.slice a' N.jts.length cap') q at' way)
    (first
      | (exact ⟨⟨cell_later' h11 t0, cell_later' h11 t1, cell_later' h11 e0, cell_later' h11 e1, cell_later' h11 e2⟩, h11⟩)
      | (exact keepL (by assumption) (by assumption)))
    (first
      | (go_at_call 16; refine (toNet_any a a' N cap cap' _ hn (HP.out.later (HB1.out.trans ((heldB (by assumption)).mono HB1.out.size))) hl HLM.out (HJ.out.later (HB1.out.trans ((heldB (by assumption)).mono HB1.out.size)))).mono ?_; rintro e w2 ⟨b1, b2, rfl, hO, hbN⟩)
      | (go_at_call 30; refine (toSpot_any _ _ _ _).mono ?_; rintro e w3 ⟨rfl, hbE⟩)
      | (go_at_call 29; refine (specSpotOk_any _ _ N _ _ _ _ _ _ hn HNS.out hl HLS.out (hO.later hbE).2.2.2.1 (hO.later hbE).2.2.2.2.at).mono ?_; rintro e w4 ⟨rfl, hbJ⟩))
  rename_i hH
  obtain ⟨⟨t0', t1', e0', e1', e2'⟩, hbx⟩ := hH
  have hB2 := HB1.out.trans (hbx.out.mono HB1.out.size)
  clear hbx h11 hbN hbE hbJ hO t0 t1 e0 e1 e2 hB1 HB1
  go_wp2_with fail
  refine (toNet_any a a' N cap cap' _ hn (HP.out.later hB2) hl HLM.out (HJ.out.later hB2)).mono ?_
  rintro e w5 ⟨c1, c2, rfl, hO, hb5⟩
  have hB5 := hB2.trans (hb5.mono hB2.size)
  have hA := (Below.refl w5.heap.size w5).alloc (Nat.le_refl _) (.cells #[.slice (some ⟨c1, 0, none⟩) N.pcs.length N.pcs.length, .slice (some ⟨c2, 0, none⟩) N.jts.length N.jts.length] 33)
  have v0 := new_cell w5 #[.slice (some ⟨c1, 0, none⟩) N.pcs.length N.pcs.length, .slice (some ⟨c2, 0, none⟩) N.jts.length N.jts.length] 33 0 _ rfl
  have v1 := new_cell w5 #[.slice (some ⟨c1, 0, none⟩) N.pcs.length N.pcs.length, .slice (some ⟨c2, 0, none⟩) N.jts.length N.jts.length] 33 1 _ rfl
  have HO := hide (hO.later hA)
  have hb5A := chn hb5 hA
  have t0 := cell_later' hb5A t0'
  have t1 := cell_later' hb5A t1'
  have e0 := cell_later' hb5A e0'
  have e1 := cell_later' hb5A e1'
  have e2 := cell_later' hb5A e2'
  have hB6 := hB5.trans (hA.mono hB5.size)
  clear hO hA hb5 hb5A t0' t1' e0' e1' e2'
  go_upto_region 7 with fail
  generalize w5.alloc (.cells #[.slice (some ⟨c1, 0, none⟩) N.pcs.length N.pcs.length, .slice (some ⟨c2, 0, none⟩) N.jts.length N.jts.length] 33) = w6 at *
  have h66 : Below w6.heap.size w6 w6.drew := (Below.refl _ _).drew
  go_region_held3 (fun w' => LS2 w w6 w' (.slice a N.pcs.length cap) (.slice a' N.jts.length cap') q at' way w5.heap.size (.slice (some ⟨c1, 0, none⟩) N.pcs.length N.pcs.length) (.slice (some ⟨c2, 0, none⟩) N.jts.length N.jts.length))
    (first
      | (exact ⟨⟨⟨cell_later' h66 t0, cell_later' h66 t1, cell_later' h66 e0, cell_later' h66 e1, cell_later' h66 e2⟩, h66⟩, cell_later' h66 v0, cell_later' h66 v1⟩)
      | (exact keepL2 (by assumption) (by assumption)))
    (first
      | (go_at_call 30; refine (toSpot_any _ _ _ _).mono ?_; rintro e w7 ⟨rfl, hbE⟩)
      | (go_at_call 31; refine (HD.out _ _ N _ _ _ _ _ _ HWF.out hn HNS.out hl HLS.out (HO.out.later (chn h66 hbE)).2.2.2.1 (HO.out.later (chn h66 hbE)).2.2.2.2.at).mono ?_; rintro e w8 ⟨rfl, hbJ⟩))
  rename_i hH
  obtain ⟨⟨⟨t0', t1', e0', e1', e2'⟩, hbx⟩, v0', v1'⟩ := hH
  have hB8 := hB6.trans (hbx.out.mono hB6.size)
  have HO8 := hide (HO.out.later hbx.out)
  clear hbx hbE hbJ h66 t0 t1 e0 e1 e2 v0 v1 HO
  have h88 : Below w8.heap.size w8 w8.drew := (Below.refl _ _).drew
  have HX0 := hide HO8.out.2.2.2.1
  have HX1 := hide HO8.out.2.2.2.2.at
  have hqq : (spotOkP N q at' way != spotOkP N q at' way) = false := by simp
  go_upto_region 10 with fail
  go_region_held3 (fun w' => LS2 w w8 w' (.slice a N.pcs.length cap) (.slice a' N.jts.length cap') q at' way w5.heap.size (.slice (some ⟨c1, 0, none⟩) N.pcs.length N.pcs.length) (.slice (some ⟨c2, 0, none⟩) N.jts.length N.jts.length))
    (first
      | (exact ⟨⟨⟨cell_later' h88 t0', cell_later' h88 t1', cell_later' h88 e0', cell_later' h88 e1', cell_later' h88 e2'⟩, h88⟩, cell_later' h88 v0', cell_later' h88 v1'⟩)
      | (exact keepL2 (by assumption) (by assumption)))
    (first
      | (go_at_call 16; refine (toNet_any a a' N cap cap' _ hn (HP.out.later (hB8.trans (h88.mono hB8.size))) hl HLM.out (HJ.out.later (hB8.trans (h88.mono hB8.size)))).mono ?_; rintro e w9 ⟨d1, d2, rfl, hO9, hb9⟩)
      | (go_at_call 19; refine (eqNet_same _ _ _ _ N _ _ _ _ _ hn hl HLM.out (HX0.out.later (chn h88 hb9)) hO9.2.2.2.1 (HX1.out.later (chn h88 hb9)) hO9.2.2.2.2.at).mono ?_; rintro e w10 ⟨rfl, hb10⟩))
  have hB10 := hB8.trans ((chn (chn h88 hb9) hb10).mono hB8.size)
  go_wp2_with fail
  go_ret
  exact ⟨rfl, hB10⟩
end Go.Proofs.Ytplnppdlabpodaa
