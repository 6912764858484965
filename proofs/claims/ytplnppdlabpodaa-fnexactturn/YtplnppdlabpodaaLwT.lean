/- The law FnExactTurn's walk, over whatever impl.Turn answers as it should. Own work. -/
import Derived.Test.YtplnppdlabpodaaLwS
namespace Go.Proofs.Ytplnppdlabpodaa
open Go.RowKit
set_option maxHeartbeats 4000000

theorem fnTurn_walk (hdone : TurnDone) (a a' : Option Addr) (N : Nt) (cap cap' : Nat) (q at' way : Int) (w : World) (hwf : Wf3 q at' way) (hp : PcsAt w a N.pcs) (hj : JtsAt w a' N.jts) (hn : N.pcs.length ≤ maxLen ∧ ∀ p ∈ N.pcs, p.name.size ≤ maxLen) (hl : N.jts.length ≤ maxLen ∧ ∀ j ∈ N.jts, j.name.size ≤ maxLen ∧ j.ends.length ≤ maxLen) :
    Calls Try.prog 7 #[.agg #[.slice a N.pcs.length cap, .slice a' N.jts.length cap'], .agg #[.int .i64 q, .int .i64 at', .int .i64 way]] w fun e w' =>
    e = .returned (.bool true) ∧ Below w.heap.size w w' := by
  have HD := hide hdone
  have HP := hide hp
  have HJ := hide hj
  have HN := hide hn
  have HL := hide hl
  have HWF := hide hwf
  clear hp hj hn hl hwf hdone
  obtain ⟨x, y, z, hxyz⟩ : ∃ x y z, turnP N q at' way = (x, y, z) := ⟨_, _, _, rfl⟩
  have HXYZ := hide hxyz
  clear hxyz
  go_enter Try.func7, Try.ntmps7
  go_wp2_with fail
  have hbW : Below w.heap.size w ((w.alloc (.cells #[.slice a N.pcs.length cap, .slice a' N.jts.length cap'] 25)).alloc (.cells #[.int .i64 q, .int .i64 at', .int .i64 way] 50)) := ((Below.refl _ _).alloc (Nat.le_refl _) _).alloc (by simp) _
  refine (szNet_any a a' N cap cap' 1048576 _ HN.out.1 (HP.out.later hbW) HN.out.2 HL.out.1 (HJ.out.later hbW) HL.out.2 (by omega) (by omega)).mono ?_
  rintro e w1 ⟨r, rfl, hr1, hr2, hr3, hb1⟩
  obtain ⟨hc, hf⟩ := bcell hb1
  have t0 : w1.cell? ⟨w.heap.size, 0, none⟩ = some (.slice a N.pcs.length cap) := by rw [hc _ _ (by simp; omega)]; simp [go_sem]
  have t1 : w1.cell? ⟨w.heap.size, 1, none⟩ = some (.slice a' N.jts.length cap') := by rw [hc _ _ (by simp; omega)]; simp [go_sem]
  have e0 : w1.cell? ⟨w.heap.size + 1, 0, none⟩ = some (.int .i64 q) := by rw [hc _ _ (by simp)]; simp [go_sem]
  have e1 : w1.cell? ⟨w.heap.size + 1, 1, none⟩ = some (.int .i64 at') := by rw [hc _ _ (by simp)]; simp [go_sem]
  have e2 : w1.cell? ⟨w.heap.size + 1, 2, none⟩ = some (.int .i64 way) := by rw [hc _ _ (by simp)]; simp [go_sem]
  have hB1 := hbW.trans (hb1.mono hbW.size)
  have HR := hide hr3
  clear hr3 hb1 hc hf
  by_cases hr : r < 0
  · go_wp2_with fail
    go_ret
    exact ⟨rfl, hB1⟩
  have hrr : decide (r < 0) = false := by rw [decide_eq_false_iff_not]; exact hr
  obtain ⟨⟨hn, hns⟩, hl, hls⟩ := HR.out (by omega)
  have HNS := hide hns
  have HLS := hide hls
  have HLM := hide (fun j (hj : j ∈ N.jts) => (HLS.out j hj).2)
  clear hns hls
  have h11 : Below w1.heap.size w1 w1.drew := (Below.refl _ _).drew
  have HB1 := hide hB1
  have hz := cell_lt e0
  go_upto_region 5 with fail
  go_cut [6] (fun s6 wx => ∃ bb : Nat, s6 = .pointer (some ⟨bb, 0, none⟩) ∧ In3 wx bb x y z ∧ Below w1.heap.size w1 wx)
  case first =>
    go_region_held3 (fun w' => LS w w1 w' (.slice a N.pcs.length cap) (.slice a' N.jts.length cap') q at' way)
      (first
        | (exact ⟨⟨cell_later' h11 t0, cell_later' h11 t1, cell_later' h11 e0, cell_later' h11 e1, cell_later' h11 e2⟩, h11⟩)
        | (exact keepL (by assumption) (by assumption))
        | (exact keepL ((Below.refl _ _).alloc (Nat.le_refl _) _) (by assumption))
        | (exact keepL ((Below.refl w4.heap.size w4).alloc (Nat.le_refl _) _) HS4.out)
        | (exact keepSet (by assumption) (by omega) hz _ _ _))
      (first
        | (go_at_call 16; refine (toNet_any a a' N cap cap' _ hn (HP.out.later (HB1.out.trans ((heldB (by assumption)).mono HB1.out.size))) hl HLM.out (HJ.out.later (HB1.out.trans ((heldB (by assumption)).mono HB1.out.size)))).mono ?_; rintro e w2 ⟨b1, b2, rfl, hO, hbN⟩; have sN : w1.heap.size ≤ w2.heap.size := Nat.le_trans (heldB (by assumption)).size hbN.size; try (have y3 : Zero3 w2 w1.heap.size := (Zero3.later (w := (w1.alloc (.cells #[.int .i64 0, .int .i64 0, .int .i64 0] 52)).drew) (Zero3.new w1 52) hbN)))
        | (go_at_call 30; refine (toSpot_any _ _ _ _).mono ?_; rintro e w3 ⟨rfl, hbE⟩; have sE : w1.heap.size ≤ w3.heap.size := Nat.le_trans (heldB (by assumption)).size hbE.size; first | (have y3 : Zero3 w3 w2.heap.size := Zero3.later (Zero3.new w2 52) hbE) | (have y3 := Zero3.later y3 hbE) | skip)
        | (go_at_call 32; refine (specTurn_any _ _ N _ _ _ _ _ _ hn HNS.out hl HLS.out ((hO.later (by first | exact hbE | exact (chn ((Below.refl _ _).alloc (Nat.le_refl _) _) hbE))).later (by first | exact Below.refl _ _ | exact (Below.refl _ _).alloc (Nat.le_refl _) _)).2.2.2.1 ((hO.later (by first | exact hbE | exact (chn ((Below.refl _ _).alloc (Nat.le_refl _) _) hbE))).later (by first | exact Below.refl _ _ | exact (Below.refl _ _).alloc (Nat.le_refl _) _)).2.2.2.2.at).mono ?_; rintro e w4 ⟨rfl, hbJ⟩; have sJ : w1.heap.size ≤ w4.heap.size := Nat.le_trans (heldB (by assumption)).size hbJ.size; have HS4 : Hid (LS w w1 w4 (.slice a N.pcs.length cap) (.slice a' N.jts.length cap') q at' way) := keepL hbJ (by assumption); rw [HXYZ.out]; first | (have y3 : Zero3 w4 w3.heap.size := Zero3.later (Zero3.new w3 52) hbJ) | (have y3 := Zero3.later y3 hbJ) | skip))
    all_goals
      rename_i hH
      have hbx := heldB hH
      go_wp2_with fail
      go_meet
      first
        | exact ⟨_, rfl, In3.put y3 x y z, hbx⟩
        | exact ⟨_, rfl, ⟨new_cell w4 _ _ 0 _ rfl, new_cell w4 _ _ 1 _ rfl, new_cell w4 _ _ 2 _ rfl⟩, hbx⟩
  case rest =>
    obtain ⟨bb, rfl, hI3, hbx⟩ := hcut
    rename World => wA
    have hB2 := HB1.out.trans (hbx.mono HB1.out.size)
    have t0 := cell_later' hbx t0
    have t1 := cell_later' hbx t1
    have e0 := cell_later' hbx e0
    have e1 := cell_later' hbx e1
    have e2 := cell_later' hbx e2
    have HI3 := hide hI3
    clear hbx h11 hB1 HB1 hz hI3
    go_wp2_with fail
    refine (toNet_any a a' N cap cap' _ hn (HP.out.later hB2) hl HLM.out (HJ.out.later hB2)).mono ?_
    rintro e w5 ⟨c1, c2, rfl, hO, hb5⟩
    have hB5 := hB2.trans (hb5.mono hB2.size)
    have hA := (Below.refl w5.heap.size w5).alloc (Nat.le_refl _) (.cells #[.slice (some ⟨c1, 0, none⟩) N.pcs.length N.pcs.length, .slice (some ⟨c2, 0, none⟩) N.jts.length N.jts.length] 33)
    have v0 := new_cell w5 #[.slice (some ⟨c1, 0, none⟩) N.pcs.length N.pcs.length, .slice (some ⟨c2, 0, none⟩) N.jts.length N.jts.length] 33 0 _ rfl
    have v1 := new_cell w5 #[.slice (some ⟨c1, 0, none⟩) N.pcs.length N.pcs.length, .slice (some ⟨c2, 0, none⟩) N.jts.length N.jts.length] 33 1 _ rfl
    have HO := hide (hO.later hA)
    have hb5A := chn hb5 hA
    have t0 := cell_later' hb5A t0
    have t1 := cell_later' hb5A t1
    have e0 := cell_later' hb5A e0
    have e1 := cell_later' hb5A e1
    have e2 := cell_later' hb5A e2
    have HI3 := hide (HI3.out.later hb5A)
    have hB6 := hB5.trans (hA.mono hB5.size)
    clear hO hA hb5 hb5A
    go_upto_region 7 with fail
    generalize w5.alloc (.cells #[.slice (some ⟨c1, 0, none⟩) N.pcs.length N.pcs.length, .slice (some ⟨c2, 0, none⟩) N.jts.length N.jts.length] 33) = w6 at *
    have h66 : Below w6.heap.size w6 w6.drew := (Below.refl _ _).drew
    have hz := cell_lt e0
    have hz5 := cell_lt v0
    go_cut [8] (fun s8 wx => ∃ b8 : Nat, s8 = .pointer (some ⟨b8, 0, none⟩) ∧ In3 wx b8 x y z ∧ Below w6.heap.size w6 wx)
    case first =>
      go_region_held3 (fun w' => LS2 w w6 w' (.slice a N.pcs.length cap) (.slice a' N.jts.length cap') q at' way w5.heap.size (.slice (some ⟨c1, 0, none⟩) N.pcs.length N.pcs.length) (.slice (some ⟨c2, 0, none⟩) N.jts.length N.jts.length))
        (first
          | (exact ⟨⟨⟨cell_later' h66 t0, cell_later' h66 t1, cell_later' h66 e0, cell_later' h66 e1, cell_later' h66 e2⟩, h66⟩, cell_later' h66 v0, cell_later' h66 v1⟩)
          | (exact keepL2 (by assumption) (by assumption))
          | (exact keepL2 ((Below.refl _ _).alloc (Nat.le_refl _) _) (by assumption))
          | (exact keepL2 ((Below.refl w8.heap.size w8).alloc (Nat.le_refl _) _) HS8.out)
          | (exact keepSet2 (by assumption) (by omega) hz hz5 _ _ _))
        (first
          | (go_at_call 30; refine (toSpot_any _ _ _ _).mono ?_; rintro e w7 ⟨rfl, hbE⟩; have sE : w6.heap.size ≤ w7.heap.size := Nat.le_trans (heldB (And.left (by assumption : LS2 w w6 _ (.slice a N.pcs.length cap) (.slice a' N.jts.length cap') q at' way w5.heap.size (.slice (some ⟨c1, 0, none⟩) N.pcs.length N.pcs.length) (.slice (some ⟨c2, 0, none⟩) N.jts.length N.jts.length)))).size hbE.size; try (have y3 : Zero3 w7 w6.heap.size := (Zero3.later (w := (w6.alloc (.cells #[.int .i64 0, .int .i64 0, .int .i64 0] 52)).drew) (Zero3.new w6 52) hbE)))
          | (go_at_call 33; refine (HD.out _ _ N _ _ _ _ _ _ HWF.out hn HNS.out hl HLS.out (HO.out.later (heldB (And.left (by assumption : LS2 w w6 _ (.slice a N.pcs.length cap) (.slice a' N.jts.length cap') q at' way w5.heap.size (.slice (some ⟨c1, 0, none⟩) N.pcs.length N.pcs.length) (.slice (some ⟨c2, 0, none⟩) N.jts.length N.jts.length))))).2.2.2.1 (HO.out.later (heldB (And.left (by assumption : LS2 w w6 _ (.slice a N.pcs.length cap) (.slice a' N.jts.length cap') q at' way w5.heap.size (.slice (some ⟨c1, 0, none⟩) N.pcs.length N.pcs.length) (.slice (some ⟨c2, 0, none⟩) N.jts.length N.jts.length))))).2.2.2.2.at).mono ?_; rintro e w8 ⟨rfl, hbJ⟩; have HS8 : Hid (LS2 w w6 w8 (.slice a N.pcs.length cap) (.slice a' N.jts.length cap') q at' way w5.heap.size (.slice (some ⟨c1, 0, none⟩) N.pcs.length N.pcs.length) (.slice (some ⟨c2, 0, none⟩) N.jts.length N.jts.length)) := keepL2 hbJ (by assumption); rw [HXYZ.out]; first | (have y3 : Zero3 w8 w7.heap.size := Zero3.later (Zero3.new w7 52) hbJ) | (have y3 := Zero3.later y3 hbJ) | skip))
      all_goals
        rename_i hH
        have hbx := heldB hH.1
        go_wp2_with fail
        go_meet
        first
          | exact ⟨_, rfl, In3.put y3 x y z, hbx⟩
          | exact ⟨_, rfl, ⟨new_cell w8 _ _ 0 _ rfl, new_cell w8 _ _ 1 _ rfl, new_cell w8 _ _ 2 _ rfl⟩, hbx⟩
    case rest =>
      obtain ⟨b8, rfl, hJ3, hbx⟩ := hcut
      rename World => wB
      have hB8 := hB6.trans (hbx.mono hB6.size)
      have t0 := cell_later' hbx t0
      have t1 := cell_later' hbx t1
      have e0 := cell_later' hbx e0
      have e1 := cell_later' hbx e1
      have e2 := cell_later' hbx e2
      have v0 := cell_later' hbx v0
      have v1 := cell_later' hbx v1
      have HO8 := hide (HO.out.later hbx)
      obtain ⟨i0, i1, i2⟩ := HI3.out.later hbx
      obtain ⟨j0, j1, j2⟩ := hJ3
      clear hbx h66 HO HI3 hz hz5
      go_wp2_with fail
      refine (eqSpot_same x y z _).mono ?_
      rintro e w7 ⟨rfl, hb7⟩
      have hB9 := hB8.trans (hb7.mono hB8.size)
      have t0 := cell_later' hb7 t0
      have t1 := cell_later' hb7 t1
      have e0 := cell_later' hb7 e0
      have e1 := cell_later' hb7 e1
      have e2 := cell_later' hb7 e2
      have v0 := cell_later' hb7 v0
      have v1 := cell_later' hb7 v1
      have HO9 := hide (HO8.out.later hb7)
      clear hb7 HO8 i0 i1 i2 j0 j1 j2
      have h99 : Below w7.heap.size w7 w7.drew := (Below.refl _ _).drew
      have HX0 := hide HO9.out.2.2.2.1
      have HX1 := hide HO9.out.2.2.2.2.at
      go_upto_region 10 with fail
      go_region_held3 (fun w' => LS2 w w7 w' (.slice a N.pcs.length cap) (.slice a' N.jts.length cap') q at' way w5.heap.size (.slice (some ⟨c1, 0, none⟩) N.pcs.length N.pcs.length) (.slice (some ⟨c2, 0, none⟩) N.jts.length N.jts.length))
        (first
          | (exact ⟨⟨⟨cell_later' h99 t0, cell_later' h99 t1, cell_later' h99 e0, cell_later' h99 e1, cell_later' h99 e2⟩, h99⟩, cell_later' h99 v0, cell_later' h99 v1⟩)
          | (exact keepL2 (by assumption) (by assumption)))
        (first
          | (go_at_call 16; refine (toNet_any a a' N cap cap' _ hn (HP.out.later (hB9.trans (h99.mono hB9.size))) hl HLM.out (HJ.out.later (hB9.trans (h99.mono hB9.size)))).mono ?_; rintro e w9 ⟨d1, d2, rfl, hO9, hb9⟩)
          | (go_at_call 19; refine (eqNet_same _ _ _ _ N _ _ _ _ _ hn hl HLM.out (HX0.out.later (chn h99 hb9)) hO9.2.2.2.1 (HX1.out.later (chn h99 hb9)) hO9.2.2.2.2.at).mono ?_; rintro e w10 ⟨rfl, hb10⟩))
      have hB10 := hB9.trans ((chn (chn h99 hb9) hb10).mono hB9.size)
      go_wp2_with fail
      go_ret
      exact ⟨rfl, hB10⟩
end Go.Proofs.Ytplnppdlabpodaa
