/- The law FnExactDrive's walk, over whatever impl.Drive answers as it should. Own work, written by gen_lwdrive.py. -/
import Derived.Test.YtplnppdlabpodaaLwDrive
import Derived.Test.YtplnppdlabpodaaMxAA
import Derived.BigRegion
namespace Go.Proofs.Ytplnppdlabpodaa
open Go.RowKit
set_option maxHeartbeats 8000000
set_option maxRecDepth 20000
set_option linter.unusedSimpArgs false

theorem fnDrive_walk (hdone : DriveDone) (a a' zl : Option Addr) (N : Nt) (cap cap' zlc : Nat) (xs : List Int) (q at' way far : Int) (w : World) (hwf : Wf3 q at' way) (hff : (Lit.int .i64 far).wf = true) (hxw : ∀ x ∈ xs, (Lit.int .i64 x).wf = true) (hp : PcsAt w a N.pcs) (hj : JtsAt w a' N.jts) (hz : IntsAt w zl xs) (hn : N.pcs.length ≤ maxLen ∧ ∀ p ∈ N.pcs, p.name.size ≤ maxLen) (hl : N.jts.length ≤ maxLen ∧ ∀ j ∈ N.jts, j.name.size ≤ maxLen ∧ j.ends.length ≤ maxLen) (hx : xs.length ≤ maxLen) :
    Calls Try.prog 8 #[.agg #[.slice a N.pcs.length cap, .slice a' N.jts.length cap'], .slice zl xs.length zlc, .agg #[.int .i64 q, .int .i64 at', .int .i64 way], .int .i64 far] w fun e w' =>
    e = .returned (.bool true) ∧ Below w.heap.size w w' := by
  have HD := hide hdone
  have HP := hide hp
  have HJ := hide hj
  have HZ := hide hz
  have HN := hide hn
  have HL := hide hl
  have HWF := hide (And.intro hwf (And.intro hff hxw))
  have hxm : (xs.length : Int) ≤ 9223372036854775807 := by unfold maxLen at hx; omega
  clear hp hj hz hn hl hwf hff hxw hdone hx
  have hbW : Below w.heap.size w ((w.alloc (.cells #[.slice a N.pcs.length cap, .slice a' N.jts.length cap'] 25)).alloc (.cells #[.int .i64 q, .int .i64 at', .int .i64 way] 50)) := ((Below.refl _ _).alloc (Nat.le_refl _) _).alloc (by simp) _
  by_cases hxl : (1048576 : Int) < (xs.length : Int)
  · go_enter Try.func8, Try.ntmps8
    go_wp2_with fail
    go_ret
    exact ⟨rfl, hbW⟩
  have hxs : xs.length ≤ 1048576 := by omega
  have hxd : decide ((1048576 : Int) < (xs.length : Int)) = false := by rw [decide_eq_false_iff_not]; exact hxl
  go_enter Try.func8, Try.ntmps8
  go_wp2_with fail
  refine (szNet_any a a' N cap cap' 1048576 _ HN.out.1 (HP.out.later hbW) HN.out.2 HL.out.1 (HJ.out.later hbW) HL.out.2 (by omega) (by omega)).mono ?_
  rintro e w1 ⟨r, rfl, hr1, hr2, hr3, hb1⟩
  obtain ⟨hc, hf⟩ := bcell hb1
  have hB1 := hbW.trans (hb1.mono hbW.size)
  have t0 : w1.cell? ⟨w.heap.size, 0, none⟩ = some (.slice a N.pcs.length cap) := by rw [hc _ _ (by simp; omega)]; simp [go_sem]
  have t1 : w1.cell? ⟨w.heap.size, 1, none⟩ = some (.slice a' N.jts.length cap') := by rw [hc _ _ (by simp; omega)]; simp [go_sem]
  have e0 : w1.cell? ⟨w.heap.size + 1, 0, none⟩ = some (.int .i64 q) := by rw [hc _ _ (by simp)]; simp [go_sem]
  have e1 : w1.cell? ⟨w.heap.size + 1, 1, none⟩ = some (.int .i64 at') := by rw [hc _ _ (by simp)]; simp [go_sem]
  have e2 : w1.cell? ⟨w.heap.size + 1, 2, none⟩ = some (.int .i64 way) := by rw [hc _ _ (by simp)]; simp [go_sem]
  have HLS1 : Hid (LS w w w1 (.slice a N.pcs.length cap) (.slice a' N.jts.length cap') q at' way) := ⟨⟨t0, t1, e0, e1, e2⟩, hB1⟩
  have HR := hide hr3
  clear hr3 hb1 hc hf
  by_cases hr : r < 0
  · go_wp2_with fail
    go_ret
    exact ⟨rfl, hB1⟩
  have hrr : decide (r < 0) = false := by rw [decide_eq_false_iff_not]; exact hr
  obtain ⟨⟨hn, hns⟩, hl, hls⟩ := HR.out (by omega)
  have HNS := hide hns
  have HLS := hide hls
  have HLM := hide (fun j (hj : j ∈ N.jts) => (HLS.out j hj).2)
  clear hns hls hbW
  have hz1 : w.heap.size + 1 < w1.heap.size := cell_lt e0
  go_upto_region 7 with fail
  go_cut [10] (fun s10 wx => ∃ (bb : Nat) (r : DRes), s10 = .pointer (some ⟨bb, 0, none⟩) ∧ DriveA N xs q at' way far r ∧ In6 wx bb r ∧ LS w w wx (.slice a N.pcs.length cap) (.slice a' N.jts.length cap') q at' way)
  case first =>
    refine wp_region_held_drew (S := fun wx => LS w w wx (.slice a N.pcs.length cap) (.slice a' N.jts.length cap') q at' way) (by kernel_rfl) ?_ (fun _ => ?_)
    · exact keepL ((Below.refl w1.heap.size w1).drew) HLS1.out
    have HS0 : Hid (LS w w w1.drew (.slice a N.pcs.length cap) (.slice a' N.jts.length cap') q at' way) := keepL ((Below.refl w1.heap.size w1).drew) HLS1.out
    generalize w1.drew = wd at *
    refine wpAnyH_take (i := 0) (v := ?v0) rfl (by kernel_rfl) (by kernel_rfl) (by kernel_rfl) (fun _ _ _ h => h) (Or.inl ⟨by rfl, ?hy0⟩) HS0.out ?rest0
    case hy0 => (intro w hSw; (try dsimp only at hSw); go_simp; try with_reducible rfl)
    try simp only [List.getElem_toArray, List.getElem_cons_succ, List.getElem_cons_zero, Act.put, List.setIfInBounds_toArray, List.set_cons_zero, List.set_cons_succ]
    refine wpAnyH_take (i := 2) (v := ?v1) rfl (by kernel_rfl) (by kernel_rfl) (by kernel_rfl) (fun _ _ _ h => h) (Or.inl ⟨by rfl, ?hy1⟩) HS0.out ?rest1
    case hy1 => (intro w hSw; (try dsimp only at hSw); go_simp; try with_reducible rfl)
    try simp only [List.getElem_toArray, List.getElem_cons_succ, List.getElem_cons_zero, Act.put, List.setIfInBounds_toArray, List.set_cons_zero, List.set_cons_succ]
    refine wpAnyH_take (i := 4) (v := ?v2) rfl (by kernel_rfl) (by kernel_rfl) (by kernel_rfl) (fun _ _ _ h => h) (Or.inl ⟨by rfl, ?hy2⟩) HS0.out ?rest2
    case hy2 => (intro w hSw; (try dsimp only at hSw); go_simp; try with_reducible rfl)
    try simp only [List.getElem_toArray, List.getElem_cons_succ, List.getElem_cons_zero, Act.put, List.setIfInBounds_toArray, List.set_cons_zero, List.set_cons_succ]
    refine wpAnyH_take (i := 6) (v := ?v3) rfl (by kernel_rfl) (by kernel_rfl) (by kernel_rfl) (fun _ _ _ h => h) (Or.inl ⟨by rfl, ?hy3⟩) HS0.out ?rest3
    case hy3 => (intro w hSw; (try dsimp only at hSw); go_simp; try with_reducible rfl)
    try simp only [List.getElem_toArray, List.getElem_cons_succ, List.getElem_cons_zero, Act.put, List.setIfInBounds_toArray, List.set_cons_zero, List.set_cons_succ]
    refine wpAnyH_ready (rs := [1, 8]) (by kernel_rfl) (by simp) ?_
    refine AllReadyH.cons rfl (fun K hK => ?_) (AllReadyH.cons rfl (fun K hK => ?_) AllReadyH.nil)
    · go_simp
      go_at_call 16
      refine (toNet_any a a' N cap cap' _ hn (HP.out.later (heldB HS0.out)) hl HLM.out (HJ.out.later (heldB HS0.out))).mono ?_
      rintro e wc4 ⟨b1, b2, rfl, hO, hbc⟩
      have HS4 : Hid (LS w w wc4 (.slice a N.pcs.length cap) (.slice a' N.jts.length cap') q at' way) := keepL hbc HS0.out
      have BO := hide (Below.refl wc4.heap.size wc4)
      have HO := hide hO
      clear hO
      clear hbc
      go_wp2_with fail
      refine hK.out _ _ ?_ (fun _ => ?_)
      · exact HS4.out
      clear hK K
      try simp only [List.getElem_toArray, List.getElem_cons_succ, List.getElem_cons_zero, Act.put, List.setIfInBounds_toArray, List.set_cons_zero, List.set_cons_succ]
      refine wpAnyH_ready (rs := [3, 8]) (by kernel_rfl) (by simp) ?_
      refine AllReadyH.cons rfl (fun K hK => ?_) (AllReadyH.cons rfl (fun K hK => ?_) AllReadyH.nil)
      · go_simp
        go_at_call 36
        refine (toIntS_any zl xs zlc _ hxs (HZ.out.later (heldB HS4.out))).mono ?_
        rintro e wc5 ⟨rfl, _, hI, hbc⟩
        have HS5 : Hid (LS w w wc5 (.slice a N.pcs.length cap) (.slice a' N.jts.length cap') q at' way) := keepL hbc HS4.out
        have BO := hide (chn BO.out hbc)
        have BI := hide (Below.refl wc5.heap.size wc5)
        try simp only [World.size_alloc] at hI
        have HI := hide hI
        clear hI
        clear hbc
        go_wp2_with fail
        refine hK.out _ _ ?_ (fun _ => ?_)
        · exact HS5.out
        clear hK K
        try simp only [List.getElem_toArray, List.getElem_cons_succ, List.getElem_cons_zero, Act.put, List.setIfInBounds_toArray, List.set_cons_zero, List.set_cons_succ]
        refine wpAnyH_ready (rs := [5, 8]) (by kernel_rfl) (by simp) ?_
        refine AllReadyH.cons rfl (fun K hK => ?_) (AllReadyH.cons rfl (fun K hK => ?_) AllReadyH.nil)
        · go_simp
          go_at_call 30
          refine (toSpot_any _ _ _ _).mono ?_
          rintro e wc6 ⟨rfl, hbc⟩
          have HS6 : Hid (LS w w wc6 (.slice a N.pcs.length cap) (.slice a' N.jts.length cap') q at' way) := keepL hbc HS5.out
          have BO := hide (chn BO.out hbc)
          have BI := hide (chn BI.out hbc)
          clear hbc
          go_wp2_with fail
          refine hK.out _ _ ?_ (fun _ => ?_)
          · exact HS6.out
          clear hK K
          try simp only [List.getElem_toArray, List.getElem_cons_succ, List.getElem_cons_zero, Act.put, List.setIfInBounds_toArray, List.set_cons_zero, List.set_cons_succ]
          refine wpAnyH_ready (rs := [7, 8]) (by kernel_rfl) (by simp) ?_
          refine AllReadyH.cons rfl (fun K hK => ?_) (AllReadyH.cons rfl (fun K hK => ?_) AllReadyH.nil)
          · go_simp
            go_at_call 35
            refine (specDrive_any _ _ _ N _ _ _ xs _ _ _ _ _ hn HNS.out hl HLS.out hxs (HO.out.later BO.out).2.2.2.1 (HO.out.later BO.out).2.2.2.2.at (HI.out.later BI.out)).mono ?_
            rintro e wc7 ⟨r, hDA, rfl, hbc⟩
            have HS7 : Hid (LS w w wc7 (.slice a N.pcs.length cap) (.slice a' N.jts.length cap') q at' way) := keepL hbc HS6.out
            have BO := hide (chn BO.out hbc)
            have BI := hide (chn BI.out hbc)
            have HDA := hide hDA
            clear hDA
            clear hbc
            go_wp2_with fail
            refine hK.out _ _ ?_ (fun _ => ?_)
            · exact HS7.out
            clear hK K
            try simp only [List.getElem_toArray, List.getElem_cons_succ, List.getElem_cons_zero, Act.put, List.setIfInBounds_toArray, List.set_cons_zero, List.set_cons_succ]
            refine wpAnyH_ready (rs := [8]) (by kernel_rfl) (by simp) ?_
            refine AllReadyH.cons rfl (fun K hK => ?_) AllReadyH.nil
            go_simp
            have hal := (Below.refl wc7.heap.size wc7).alloc (Nat.le_refl _) (.cells #[.int .i64 0, .int .i64 0, .int .i64 0, .int .i64 0, .int .i64 0, .int .i64 0] 59)
            have hzA := cell_lt HS7.out.1.2.2.1
            have HS8 := hide (keepL hal HS7.out)
            have BO := hide (chn BO.out hal)
            have BI := hide (chn BI.out hal)
            clear hal
            refine hK.out _ _ ?_ (fun _ => ?_)
            · exact HS8.out
            clear hK K
            try simp only [List.getElem_toArray, List.getElem_cons_succ, List.getElem_cons_zero, Act.put, List.setIfInBounds_toArray, List.set_cons_zero, List.set_cons_succ]
            refine wpAnyH_ready (rs := [9]) (by kernel_rfl) (by simp) ?_
            refine AllReadyH.cons rfl (fun K hK => ?_) AllReadyH.nil
            go_simp
            refine hK.out _ _ ?_ (fun _ => ?_)
            · exact keepL ((Below.refl wc7.heap.size wc7).alloc (Nat.le_refl _) _) HS7.out
            clear hK K
            try simp only [List.getElem_toArray, List.getElem_cons_succ, List.getElem_cons_zero, Act.put, List.setIfInBounds_toArray, List.set_cons_zero, List.set_cons_succ]
            refine wpAnyH_done (by kernel_rfl) ?_ _
            go_wp2_with fail
            go_meet
            exact ⟨_, r, rfl, HDA.out, ⟨new_cell wc7 _ _ 0 _ rfl, new_cell wc7 _ _ 1 _ rfl, new_cell wc7 _ _ 2 _ rfl, new_cell wc7 _ _ 3 _ rfl, new_cell wc7 _ _ 4 _ rfl, new_cell wc7 _ _ 5 _ rfl⟩, keepL ((Below.refl wc7.heap.size wc7).alloc (Nat.le_refl _) _) HS7.out⟩
          · go_simp
            have hal := (Below.refl wc6.heap.size wc6).alloc (Nat.le_refl _) (.cells #[.int .i64 0, .int .i64 0, .int .i64 0, .int .i64 0, .int .i64 0, .int .i64 0] 59)
            have hzA := cell_lt HS6.out.1.2.2.1
            have HS9 := hide (keepL hal HS6.out)
            have BO := hide (chn BO.out hal)
            have BI := hide (chn BI.out hal)
            clear hal
            refine hK.out _ _ ?_ (fun _ => ?_)
            · exact HS9.out
            clear hK K
            try simp only [List.getElem_toArray, List.getElem_cons_succ, List.getElem_cons_zero, Act.put, List.setIfInBounds_toArray, List.set_cons_zero, List.set_cons_succ]
            refine wpAnyH_ready (rs := [7]) (by kernel_rfl) (by simp) ?_
            refine AllReadyH.cons rfl (fun K hK => ?_) AllReadyH.nil
            go_simp
            go_at_call 35
            refine (specDrive_any _ _ _ N _ _ _ xs _ _ _ _ _ hn HNS.out hl HLS.out hxs (HO.out.later BO.out).2.2.2.1 (HO.out.later BO.out).2.2.2.2.at (HI.out.later BI.out)).mono ?_
            rintro e wc10 ⟨r, hDA, rfl, hbc⟩
            have HS10 : Hid (LS w w wc10 (.slice a N.pcs.length cap) (.slice a' N.jts.length cap') q at' way) := keepL hbc HS9.out
            have BO := hide (chn BO.out hbc)
            have BI := hide (chn BI.out hbc)
            have HDA := hide hDA
            clear hDA
            have y6_10 := hide (Six.later (six_new wc6 59) hbc)
            clear hbc
            go_wp2_with fail
            refine hK.out _ _ ?_ (fun _ => ?_)
            · exact HS10.out
            clear hK K
            try simp only [List.getElem_toArray, List.getElem_cons_succ, List.getElem_cons_zero, Act.put, List.setIfInBounds_toArray, List.set_cons_zero, List.set_cons_succ]
            obtain ⟨r0, r1, r2, r3, r4, r5, g0, g1, g2, g3, g4, g5⟩ := y6_10.out
            refine wpAnyH_ready (rs := [9]) (by kernel_rfl) (by simp) ?_
            refine AllReadyH.cons rfl (fun K hK => ?_) AllReadyH.nil
            rw [if_pos (by rfl)]
            simp only [List.getElem_toArray, List.getElem_cons_succ, List.getElem_cons_zero]
            go_big_op
            refine hK.out _ _ ?_ (fun _ => ?_)
            · exact keepS6 HS10.out hzA r
            clear hK K
            try simp only [List.getElem_toArray, List.getElem_cons_succ, List.getElem_cons_zero, Act.put, List.setIfInBounds_toArray, List.set_cons_zero, List.set_cons_succ]
            refine wpAnyH_done (by kernel_rfl) ?_ _
            go_wp2_with fail
            go_meet
            exact ⟨_, r, rfl, HDA.out, In6.put y6_10.out r, keepS6 HS10.out hzA r⟩
        · go_simp
          have hal := (Below.refl wc5.heap.size wc5).alloc (Nat.le_refl _) (.cells #[.int .i64 0, .int .i64 0, .int .i64 0, .int .i64 0, .int .i64 0, .int .i64 0] 59)
          have hzA := cell_lt HS5.out.1.2.2.1
          have HS11 := hide (keepL hal HS5.out)
          have BO := hide (chn BO.out hal)
          have BI := hide (chn BI.out hal)
          clear hal
          refine hK.out _ _ ?_ (fun _ => ?_)
          · exact HS11.out
          clear hK K
          try simp only [List.getElem_toArray, List.getElem_cons_succ, List.getElem_cons_zero, Act.put, List.setIfInBounds_toArray, List.set_cons_zero, List.set_cons_succ]
          refine wpAnyH_ready (rs := [5]) (by kernel_rfl) (by simp) ?_
          refine AllReadyH.cons rfl (fun K hK => ?_) AllReadyH.nil
          go_simp
          go_at_call 30
          refine (toSpot_any _ _ _ _).mono ?_
          rintro e wc12 ⟨rfl, hbc⟩
          have HS12 : Hid (LS w w wc12 (.slice a N.pcs.length cap) (.slice a' N.jts.length cap') q at' way) := keepL hbc HS11.out
          have BO := hide (chn BO.out hbc)
          have BI := hide (chn BI.out hbc)
          have y6_12 := hide (Six.later (six_new wc5 59) hbc)
          clear hbc
          go_wp2_with fail
          refine hK.out _ _ ?_ (fun _ => ?_)
          · exact HS12.out
          clear hK K
          try simp only [List.getElem_toArray, List.getElem_cons_succ, List.getElem_cons_zero, Act.put, List.setIfInBounds_toArray, List.set_cons_zero, List.set_cons_succ]
          refine wpAnyH_ready (rs := [7]) (by kernel_rfl) (by simp) ?_
          refine AllReadyH.cons rfl (fun K hK => ?_) AllReadyH.nil
          go_simp
          go_at_call 35
          refine (specDrive_any _ _ _ N _ _ _ xs _ _ _ _ _ hn HNS.out hl HLS.out hxs (HO.out.later BO.out).2.2.2.1 (HO.out.later BO.out).2.2.2.2.at (HI.out.later BI.out)).mono ?_
          rintro e wc13 ⟨r, hDA, rfl, hbc⟩
          have HS13 : Hid (LS w w wc13 (.slice a N.pcs.length cap) (.slice a' N.jts.length cap') q at' way) := keepL hbc HS12.out
          have BO := hide (chn BO.out hbc)
          have BI := hide (chn BI.out hbc)
          have HDA := hide hDA
          clear hDA
          have y6_13 := hide (y6_12.out.later hbc)
          clear hbc
          go_wp2_with fail
          refine hK.out _ _ ?_ (fun _ => ?_)
          · exact HS13.out
          clear hK K
          try simp only [List.getElem_toArray, List.getElem_cons_succ, List.getElem_cons_zero, Act.put, List.setIfInBounds_toArray, List.set_cons_zero, List.set_cons_succ]
          obtain ⟨r0, r1, r2, r3, r4, r5, g0, g1, g2, g3, g4, g5⟩ := y6_13.out
          refine wpAnyH_ready (rs := [9]) (by kernel_rfl) (by simp) ?_
          refine AllReadyH.cons rfl (fun K hK => ?_) AllReadyH.nil
          rw [if_pos (by rfl)]
          simp only [List.getElem_toArray, List.getElem_cons_succ, List.getElem_cons_zero]
          go_big_op
          refine hK.out _ _ ?_ (fun _ => ?_)
          · exact keepS6 HS13.out hzA r
          clear hK K
          try simp only [List.getElem_toArray, List.getElem_cons_succ, List.getElem_cons_zero, Act.put, List.setIfInBounds_toArray, List.set_cons_zero, List.set_cons_succ]
          refine wpAnyH_done (by kernel_rfl) ?_ _
          go_wp2_with fail
          go_meet
          exact ⟨_, r, rfl, HDA.out, In6.put y6_13.out r, keepS6 HS13.out hzA r⟩
      · go_simp
        have hal := (Below.refl wc4.heap.size wc4).alloc (Nat.le_refl _) (.cells #[.int .i64 0, .int .i64 0, .int .i64 0, .int .i64 0, .int .i64 0, .int .i64 0] 59)
        have hzA := cell_lt HS4.out.1.2.2.1
        have HS14 := hide (keepL hal HS4.out)
        have BO := hide (chn BO.out hal)
        clear hal
        refine hK.out _ _ ?_ (fun _ => ?_)
        · exact HS14.out
        clear hK K
        try simp only [List.getElem_toArray, List.getElem_cons_succ, List.getElem_cons_zero, Act.put, List.setIfInBounds_toArray, List.set_cons_zero, List.set_cons_succ]
        refine wpAnyH_ready (rs := [3]) (by kernel_rfl) (by simp) ?_
        refine AllReadyH.cons rfl (fun K hK => ?_) AllReadyH.nil
        go_simp
        go_at_call 36
        refine (toIntS_any zl xs zlc _ hxs (HZ.out.later (heldB HS14.out))).mono ?_
        rintro e wc15 ⟨rfl, _, hI, hbc⟩
        have HS15 : Hid (LS w w wc15 (.slice a N.pcs.length cap) (.slice a' N.jts.length cap') q at' way) := keepL hbc HS14.out
        have BO := hide (chn BO.out hbc)
        have BI := hide (Below.refl wc15.heap.size wc15)
        try simp only [World.size_alloc] at hI
        have HI := hide hI
        clear hI
        have y6_15 := hide (Six.later (six_new wc4 59) hbc)
        clear hbc
        go_wp2_with fail
        refine hK.out _ _ ?_ (fun _ => ?_)
        · exact HS15.out
        clear hK K
        try simp only [List.getElem_toArray, List.getElem_cons_succ, List.getElem_cons_zero, Act.put, List.setIfInBounds_toArray, List.set_cons_zero, List.set_cons_succ]
        refine wpAnyH_ready (rs := [5]) (by kernel_rfl) (by simp) ?_
        refine AllReadyH.cons rfl (fun K hK => ?_) AllReadyH.nil
        go_simp
        go_at_call 30
        refine (toSpot_any _ _ _ _).mono ?_
        rintro e wc16 ⟨rfl, hbc⟩
        have HS16 : Hid (LS w w wc16 (.slice a N.pcs.length cap) (.slice a' N.jts.length cap') q at' way) := keepL hbc HS15.out
        have BO := hide (chn BO.out hbc)
        have BI := hide (chn BI.out hbc)
        have y6_16 := hide (y6_15.out.later hbc)
        clear hbc
        go_wp2_with fail
        refine hK.out _ _ ?_ (fun _ => ?_)
        · exact HS16.out
        clear hK K
        try simp only [List.getElem_toArray, List.getElem_cons_succ, List.getElem_cons_zero, Act.put, List.setIfInBounds_toArray, List.set_cons_zero, List.set_cons_succ]
        refine wpAnyH_ready (rs := [7]) (by kernel_rfl) (by simp) ?_
        refine AllReadyH.cons rfl (fun K hK => ?_) AllReadyH.nil
        go_simp
        go_at_call 35
        refine (specDrive_any _ _ _ N _ _ _ xs _ _ _ _ _ hn HNS.out hl HLS.out hxs (HO.out.later BO.out).2.2.2.1 (HO.out.later BO.out).2.2.2.2.at (HI.out.later BI.out)).mono ?_
        rintro e wc17 ⟨r, hDA, rfl, hbc⟩
        have HS17 : Hid (LS w w wc17 (.slice a N.pcs.length cap) (.slice a' N.jts.length cap') q at' way) := keepL hbc HS16.out
        have BO := hide (chn BO.out hbc)
        have BI := hide (chn BI.out hbc)
        have HDA := hide hDA
        clear hDA
        have y6_17 := hide (y6_16.out.later hbc)
        clear hbc
        go_wp2_with fail
        refine hK.out _ _ ?_ (fun _ => ?_)
        · exact HS17.out
        clear hK K
        try simp only [List.getElem_toArray, List.getElem_cons_succ, List.getElem_cons_zero, Act.put, List.setIfInBounds_toArray, List.set_cons_zero, List.set_cons_succ]
        obtain ⟨r0, r1, r2, r3, r4, r5, g0, g1, g2, g3, g4, g5⟩ := y6_17.out
        refine wpAnyH_ready (rs := [9]) (by kernel_rfl) (by simp) ?_
        refine AllReadyH.cons rfl (fun K hK => ?_) AllReadyH.nil
        rw [if_pos (by rfl)]
        simp only [List.getElem_toArray, List.getElem_cons_succ, List.getElem_cons_zero]
        go_big_op
        refine hK.out _ _ ?_ (fun _ => ?_)
        · exact keepS6 HS17.out hzA r
        clear hK K
        try simp only [List.getElem_toArray, List.getElem_cons_succ, List.getElem_cons_zero, Act.put, List.setIfInBounds_toArray, List.set_cons_zero, List.set_cons_succ]
        refine wpAnyH_done (by kernel_rfl) ?_ _
        go_wp2_with fail
        go_meet
        exact ⟨_, r, rfl, HDA.out, In6.put y6_17.out r, keepS6 HS17.out hzA r⟩
    · go_simp
      have hal := (Below.refl wd.heap.size wd).alloc (Nat.le_refl _) (.cells #[.int .i64 0, .int .i64 0, .int .i64 0, .int .i64 0, .int .i64 0, .int .i64 0] 59)
      have hzA := cell_lt HS0.out.1.2.2.1
      have HS18 := hide (keepL hal HS0.out)
      clear hal
      refine hK.out _ _ ?_ (fun _ => ?_)
      · exact HS18.out
      clear hK K
      try simp only [List.getElem_toArray, List.getElem_cons_succ, List.getElem_cons_zero, Act.put, List.setIfInBounds_toArray, List.set_cons_zero, List.set_cons_succ]
      refine wpAnyH_ready (rs := [1]) (by kernel_rfl) (by simp) ?_
      refine AllReadyH.cons rfl (fun K hK => ?_) AllReadyH.nil
      go_simp
      go_at_call 16
      refine (toNet_any a a' N cap cap' _ hn (HP.out.later (heldB HS18.out)) hl HLM.out (HJ.out.later (heldB HS18.out))).mono ?_
      rintro e wc19 ⟨b1, b2, rfl, hO, hbc⟩
      have HS19 : Hid (LS w w wc19 (.slice a N.pcs.length cap) (.slice a' N.jts.length cap') q at' way) := keepL hbc HS18.out
      have BO := hide (Below.refl wc19.heap.size wc19)
      have HO := hide hO
      clear hO
      have y6_19 := hide (Six.later (six_new wd 59) hbc)
      clear hbc
      go_wp2_with fail
      refine hK.out _ _ ?_ (fun _ => ?_)
      · exact HS19.out
      clear hK K
      try simp only [List.getElem_toArray, List.getElem_cons_succ, List.getElem_cons_zero, Act.put, List.setIfInBounds_toArray, List.set_cons_zero, List.set_cons_succ]
      refine wpAnyH_ready (rs := [3]) (by kernel_rfl) (by simp) ?_
      refine AllReadyH.cons rfl (fun K hK => ?_) AllReadyH.nil
      go_simp
      go_at_call 36
      refine (toIntS_any zl xs zlc _ hxs (HZ.out.later (heldB HS19.out))).mono ?_
      rintro e wc20 ⟨rfl, _, hI, hbc⟩
      have HS20 : Hid (LS w w wc20 (.slice a N.pcs.length cap) (.slice a' N.jts.length cap') q at' way) := keepL hbc HS19.out
      have BO := hide (chn BO.out hbc)
      have BI := hide (Below.refl wc20.heap.size wc20)
      try simp only [World.size_alloc] at hI
      have HI := hide hI
      clear hI
      have y6_20 := hide (y6_19.out.later hbc)
      clear hbc
      go_wp2_with fail
      refine hK.out _ _ ?_ (fun _ => ?_)
      · exact HS20.out
      clear hK K
      try simp only [List.getElem_toArray, List.getElem_cons_succ, List.getElem_cons_zero, Act.put, List.setIfInBounds_toArray, List.set_cons_zero, List.set_cons_succ]
      refine wpAnyH_ready (rs := [5]) (by kernel_rfl) (by simp) ?_
      refine AllReadyH.cons rfl (fun K hK => ?_) AllReadyH.nil
      go_simp
      go_at_call 30
      refine (toSpot_any _ _ _ _).mono ?_
      rintro e wc21 ⟨rfl, hbc⟩
      have HS21 : Hid (LS w w wc21 (.slice a N.pcs.length cap) (.slice a' N.jts.length cap') q at' way) := keepL hbc HS20.out
      have BO := hide (chn BO.out hbc)
      have BI := hide (chn BI.out hbc)
      have y6_21 := hide (y6_20.out.later hbc)
      clear hbc
      go_wp2_with fail
      refine hK.out _ _ ?_ (fun _ => ?_)
      · exact HS21.out
      clear hK K
      try simp only [List.getElem_toArray, List.getElem_cons_succ, List.getElem_cons_zero, Act.put, List.setIfInBounds_toArray, List.set_cons_zero, List.set_cons_succ]
      refine wpAnyH_ready (rs := [7]) (by kernel_rfl) (by simp) ?_
      refine AllReadyH.cons rfl (fun K hK => ?_) AllReadyH.nil
      go_simp
      go_at_call 35
      refine (specDrive_any _ _ _ N _ _ _ xs _ _ _ _ _ hn HNS.out hl HLS.out hxs (HO.out.later BO.out).2.2.2.1 (HO.out.later BO.out).2.2.2.2.at (HI.out.later BI.out)).mono ?_
      rintro e wc22 ⟨r, hDA, rfl, hbc⟩
      have HS22 : Hid (LS w w wc22 (.slice a N.pcs.length cap) (.slice a' N.jts.length cap') q at' way) := keepL hbc HS21.out
      have BO := hide (chn BO.out hbc)
      have BI := hide (chn BI.out hbc)
      have HDA := hide hDA
      clear hDA
      have y6_22 := hide (y6_21.out.later hbc)
      clear hbc
      go_wp2_with fail
      refine hK.out _ _ ?_ (fun _ => ?_)
      · exact HS22.out
      clear hK K
      try simp only [List.getElem_toArray, List.getElem_cons_succ, List.getElem_cons_zero, Act.put, List.setIfInBounds_toArray, List.set_cons_zero, List.set_cons_succ]
      obtain ⟨r0, r1, r2, r3, r4, r5, g0, g1, g2, g3, g4, g5⟩ := y6_22.out
      refine wpAnyH_ready (rs := [9]) (by kernel_rfl) (by simp) ?_
      refine AllReadyH.cons rfl (fun K hK => ?_) AllReadyH.nil
      rw [if_pos (by rfl)]
      simp only [List.getElem_toArray, List.getElem_cons_succ, List.getElem_cons_zero]
      go_big_op
      refine hK.out _ _ ?_ (fun _ => ?_)
      · exact keepS6 HS22.out hzA r
      clear hK K
      try simp only [List.getElem_toArray, List.getElem_cons_succ, List.getElem_cons_zero, Act.put, List.setIfInBounds_toArray, List.set_cons_zero, List.set_cons_succ]
      refine wpAnyH_done (by kernel_rfl) ?_ _
      go_wp2_with fail
      go_meet
      exact ⟨_, r, rfl, HDA.out, In6.put y6_22.out r, keepS6 HS22.out hzA r⟩
  case rest =>
    obtain ⟨bb, r, rfl, hDA, hI6, hLSx⟩ := hcut
    rename World => w5
    have HDA := hide hDA
    have HI6 := hide hI6
    have HLS5 := hide hLSx
    have hB5 := heldB HLS5.out
    obtain ⟨t0, t1, e0, e1, e2⟩ := HLS5.out.1
    clear HLS1 hDA hI6 hLSx
    go_wp2_with fail
    refine (toNet_any a a' N cap cap' _ hn (HP.out.later hB5) hl HLM.out (HJ.out.later hB5)).mono ?_
    rintro e w6 ⟨c1, c2, rfl, hO, hb6⟩
    have hA := (Below.refl w6.heap.size w6).alloc (Nat.le_refl _) (.cells #[.slice (some ⟨c1, 0, none⟩) N.pcs.length N.pcs.length, .slice (some ⟨c2, 0, none⟩) N.jts.length N.jts.length] 33)
    have v0 := new_cell w6 #[.slice (some ⟨c1, 0, none⟩) N.pcs.length N.pcs.length, .slice (some ⟨c2, 0, none⟩) N.jts.length N.jts.length] 33 0 _ rfl
    have v1 := new_cell w6 #[.slice (some ⟨c1, 0, none⟩) N.pcs.length N.pcs.length, .slice (some ⟨c2, 0, none⟩) N.jts.length N.jts.length] 33 1 _ rfl
    have HLS7 := hide (keepL (chn hb6 hA) HLS5.out)
    have HO7 := hide (hO.later hA)
    have HI6 := hide (HI6.out.later (chn hb6 hA))
    clear hO hA hb6 HLS5 t0 t1 e0 e1 e2 hB5
    go_wp2_with fail
    generalize w6.alloc (.cells #[.slice (some ⟨c1, 0, none⟩) N.pcs.length N.pcs.length, .slice (some ⟨c2, 0, none⟩) N.jts.length N.jts.length] 33) = w7 at *
    refine (toIntS_any zl xs zlc _ hxs (HZ.out.later (heldB HLS7.out))).mono ?_
    rintro e w8 ⟨rfl, _, hI, hb8⟩
    have HLS8 := hide (keepL hb8 HLS7.out)
    have HO8 := hide (HO7.out.later hb8)
    have HI8 := hide hI
    have HI6 := hide (HI6.out.later hb8)
    have v0 := cell_later' hb8 v0
    have v1 := cell_later' hb8 v1
    have hzw := cell_lt HLS8.out.1.2.2.1
    have hz6 := cell_lt v0
    clear hI hb8 HLS7 HO7
    go_upto_region 10 with fail
    go_cut [13] (fun s13 wx => ∃ (b2 : Nat) (r2 : DRes), s13 = .pointer (some ⟨b2, 0, none⟩) ∧ DriveA N xs q at' way far r2 ∧ In6 wx b2 r2 ∧ LB w w8 wx (.slice a N.pcs.length cap) (.slice a' N.jts.length cap') q at' way w6.heap.size (.slice (some ⟨c1, 0, none⟩) N.pcs.length N.pcs.length) (.slice (some ⟨c2, 0, none⟩) N.jts.length N.jts.length))
    case first =>
      have h88 : Below w8.heap.size w8 w8.drew := (Below.refl _ _).drew
      have HS0 : Hid (LB w w8 w8.drew (.slice a N.pcs.length cap) (.slice a' N.jts.length cap') q at' way w6.heap.size (.slice (some ⟨c1, 0, none⟩) N.pcs.length N.pcs.length) (.slice (some ⟨c2, 0, none⟩) N.jts.length N.jts.length)) := ⟨⟨keepL h88 HLS8.out, cell_later' h88 v0, cell_later' h88 v1⟩, h88⟩
      refine wp_region_held_drew (S := fun wx => LB w w8 wx (.slice a N.pcs.length cap) (.slice a' N.jts.length cap') q at' way w6.heap.size (.slice (some ⟨c1, 0, none⟩) N.pcs.length N.pcs.length) (.slice (some ⟨c2, 0, none⟩) N.jts.length N.jts.length)) (by kernel_rfl) ?_ (fun _ => ?_)
      · exact HS0.out
      clear h88 v0 v1 HI6
      generalize w8.drew = wd at *
      refine wpAnyH_take (i := 0) (v := ?v23) rfl (by kernel_rfl) (by kernel_rfl) (by kernel_rfl) (fun _ _ _ h => h) (Or.inl ⟨by rfl, ?hy23⟩) HS0.out ?rest23
      case hy23 => (intro w hSw; (try dsimp only at hSw); go_simp; try with_reducible rfl)
      try simp only [List.getElem_toArray, List.getElem_cons_succ, List.getElem_cons_zero, Act.put, List.setIfInBounds_toArray, List.set_cons_zero, List.set_cons_succ]
      refine wpAnyH_take (i := 1) (v := ?v24) rfl (by kernel_rfl) (by kernel_rfl) (by kernel_rfl) (fun _ _ _ h => h) (Or.inl ⟨by rfl, ?hy24⟩) HS0.out ?rest24
      case hy24 => (intro w hSw; (try dsimp only at hSw); go_simp; try with_reducible rfl)
      try simp only [List.getElem_toArray, List.getElem_cons_succ, List.getElem_cons_zero, Act.put, List.setIfInBounds_toArray, List.set_cons_zero, List.set_cons_succ]
      refine wpAnyH_take (i := 2) (v := ?v25) rfl (by kernel_rfl) (by kernel_rfl) (by kernel_rfl) (fun _ _ _ h => h) (Or.inl ⟨by rfl, ?hy25⟩) HS0.out ?rest25
      case hy25 => (intro w hSw; (try dsimp only at hSw); go_simp; try with_reducible rfl)
      try simp only [List.getElem_toArray, List.getElem_cons_succ, List.getElem_cons_zero, Act.put, List.setIfInBounds_toArray, List.set_cons_zero, List.set_cons_succ]
      refine wpAnyH_take (i := 4) (v := ?v26) rfl (by kernel_rfl) (by kernel_rfl) (by kernel_rfl) (fun _ _ _ h => h) (Or.inl ⟨by rfl, ?hy26⟩) HS0.out ?rest26
      case hy26 => (intro w hSw; (try dsimp only at hSw); go_simp; try with_reducible rfl)
      try simp only [List.getElem_toArray, List.getElem_cons_succ, List.getElem_cons_zero, Act.put, List.setIfInBounds_toArray, List.set_cons_zero, List.set_cons_succ]
      refine wpAnyH_ready (rs := [3, 6]) (by kernel_rfl) (by simp) ?_
      refine AllReadyH.cons rfl (fun K hK => ?_) (AllReadyH.cons rfl (fun K hK => ?_) AllReadyH.nil)
      · go_simp
        go_at_call 30
        refine (toSpot_any _ _ _ _).mono ?_
        rintro e wc27 ⟨rfl, hbc⟩
        have HS27 : Hid (LB w w8 wc27 (.slice a N.pcs.length cap) (.slice a' N.jts.length cap') q at' way w6.heap.size (.slice (some ⟨c1, 0, none⟩) N.pcs.length N.pcs.length) (.slice (some ⟨c2, 0, none⟩) N.jts.length N.jts.length)) := keepLB hbc HS0.out
        clear hbc
        go_wp2_with fail
        refine hK.out _ _ ?_ (fun _ => ?_)
        · exact HS27.out
        clear hK K
        try simp only [List.getElem_toArray, List.getElem_cons_succ, List.getElem_cons_zero, Act.put, List.setIfInBounds_toArray, List.set_cons_zero, List.set_cons_succ]
        refine wpAnyH_ready (rs := [5, 6]) (by kernel_rfl) (by simp) ?_
        refine AllReadyH.cons rfl (fun K hK => ?_) (AllReadyH.cons rfl (fun K hK => ?_) AllReadyH.nil)
        · go_simp
          go_at_call 37
          refine (HD.out _ _ _ N _ _ _ xs _ _ _ _ _ HWF.out.1 HWF.out.2.1 HWF.out.2.2 hn HNS.out hl HLS.out hxs (HO8.out.later (HS27.out.2.out)).2.2.2.1 (HO8.out.later (HS27.out.2.out)).2.2.2.2.at (HI8.out.later (HS27.out.2.out))).mono ?_
          rintro e wc28 ⟨r, hDA, rfl, hbc⟩
          have HS28 : Hid (LB w w8 wc28 (.slice a N.pcs.length cap) (.slice a' N.jts.length cap') q at' way w6.heap.size (.slice (some ⟨c1, 0, none⟩) N.pcs.length N.pcs.length) (.slice (some ⟨c2, 0, none⟩) N.jts.length N.jts.length)) := keepLB hbc HS27.out
          have HDA2 := hide hDA
          clear hDA
          clear hbc
          go_wp2_with fail
          refine hK.out _ _ ?_ (fun _ => ?_)
          · exact HS28.out
          clear hK K
          try simp only [List.getElem_toArray, List.getElem_cons_succ, List.getElem_cons_zero, Act.put, List.setIfInBounds_toArray, List.set_cons_zero, List.set_cons_succ]
          refine wpAnyH_ready (rs := [6]) (by kernel_rfl) (by simp) ?_
          refine AllReadyH.cons rfl (fun K hK => ?_) AllReadyH.nil
          go_simp
          have hal := (Below.refl wc28.heap.size wc28).alloc (Nat.le_refl _) (.cells #[.int .i64 0, .int .i64 0, .int .i64 0, .int .i64 0, .int .i64 0, .int .i64 0] 59)
          have hzA := HS28.out.2.out.size
          have HS29 := hide (keepLB hal HS28.out)
          clear hal
          refine hK.out _ _ ?_ (fun _ => ?_)
          · exact HS29.out
          clear hK K
          try simp only [List.getElem_toArray, List.getElem_cons_succ, List.getElem_cons_zero, Act.put, List.setIfInBounds_toArray, List.set_cons_zero, List.set_cons_succ]
          refine wpAnyH_ready (rs := [7]) (by kernel_rfl) (by simp) ?_
          refine AllReadyH.cons rfl (fun K hK => ?_) AllReadyH.nil
          go_simp
          refine hK.out _ _ ?_ (fun _ => ?_)
          · exact keepLB ((Below.refl wc28.heap.size wc28).alloc (Nat.le_refl _) _) HS28.out
          clear hK K
          try simp only [List.getElem_toArray, List.getElem_cons_succ, List.getElem_cons_zero, Act.put, List.setIfInBounds_toArray, List.set_cons_zero, List.set_cons_succ]
          refine wpAnyH_done (by kernel_rfl) ?_ _
          go_wp2_with fail
          go_meet
          exact ⟨_, r, rfl, HDA2.out, ⟨new_cell wc28 _ _ 0 _ rfl, new_cell wc28 _ _ 1 _ rfl, new_cell wc28 _ _ 2 _ rfl, new_cell wc28 _ _ 3 _ rfl, new_cell wc28 _ _ 4 _ rfl, new_cell wc28 _ _ 5 _ rfl⟩, keepLB ((Below.refl wc28.heap.size wc28).alloc (Nat.le_refl _) _) HS28.out⟩
        · go_simp
          have hal := (Below.refl wc27.heap.size wc27).alloc (Nat.le_refl _) (.cells #[.int .i64 0, .int .i64 0, .int .i64 0, .int .i64 0, .int .i64 0, .int .i64 0] 59)
          have hzA := HS27.out.2.out.size
          have HS30 := hide (keepLB hal HS27.out)
          clear hal
          refine hK.out _ _ ?_ (fun _ => ?_)
          · exact HS30.out
          clear hK K
          try simp only [List.getElem_toArray, List.getElem_cons_succ, List.getElem_cons_zero, Act.put, List.setIfInBounds_toArray, List.set_cons_zero, List.set_cons_succ]
          refine wpAnyH_ready (rs := [5]) (by kernel_rfl) (by simp) ?_
          refine AllReadyH.cons rfl (fun K hK => ?_) AllReadyH.nil
          go_simp
          go_at_call 37
          refine (HD.out _ _ _ N _ _ _ xs _ _ _ _ _ HWF.out.1 HWF.out.2.1 HWF.out.2.2 hn HNS.out hl HLS.out hxs (HO8.out.later (HS30.out.2.out)).2.2.2.1 (HO8.out.later (HS30.out.2.out)).2.2.2.2.at (HI8.out.later (HS30.out.2.out))).mono ?_
          rintro e wc31 ⟨r, hDA, rfl, hbc⟩
          have HS31 : Hid (LB w w8 wc31 (.slice a N.pcs.length cap) (.slice a' N.jts.length cap') q at' way w6.heap.size (.slice (some ⟨c1, 0, none⟩) N.pcs.length N.pcs.length) (.slice (some ⟨c2, 0, none⟩) N.jts.length N.jts.length)) := keepLB hbc HS30.out
          have HDA2 := hide hDA
          clear hDA
          have y6_31 := hide (Six.later (six_new wc27 59) hbc)
          clear hbc
          go_wp2_with fail
          refine hK.out _ _ ?_ (fun _ => ?_)
          · exact HS31.out
          clear hK K
          try simp only [List.getElem_toArray, List.getElem_cons_succ, List.getElem_cons_zero, Act.put, List.setIfInBounds_toArray, List.set_cons_zero, List.set_cons_succ]
          obtain ⟨r0, r1, r2, r3, r4, r5, g0, g1, g2, g3, g4, g5⟩ := y6_31.out
          refine wpAnyH_ready (rs := [7]) (by kernel_rfl) (by simp) ?_
          refine AllReadyH.cons rfl (fun K hK => ?_) AllReadyH.nil
          rw [if_pos (by rfl)]
          simp only [List.getElem_toArray, List.getElem_cons_succ, List.getElem_cons_zero]
          go_big_op
          refine hK.out _ _ ?_ (fun _ => ?_)
          · exact keepLB6 HS31.out hzA hzw hz6 r
          clear hK K
          try simp only [List.getElem_toArray, List.getElem_cons_succ, List.getElem_cons_zero, Act.put, List.setIfInBounds_toArray, List.set_cons_zero, List.set_cons_succ]
          refine wpAnyH_done (by kernel_rfl) ?_ _
          go_wp2_with fail
          go_meet
          exact ⟨_, r, rfl, HDA2.out, In6.put y6_31.out r, keepLB6 HS31.out hzA hzw hz6 r⟩
      · go_simp
        have hal := (Below.refl wd.heap.size wd).alloc (Nat.le_refl _) (.cells #[.int .i64 0, .int .i64 0, .int .i64 0, .int .i64 0, .int .i64 0, .int .i64 0] 59)
        have hzA := HS0.out.2.out.size
        have HS32 := hide (keepLB hal HS0.out)
        clear hal
        refine hK.out _ _ ?_ (fun _ => ?_)
        · exact HS32.out
        clear hK K
        try simp only [List.getElem_toArray, List.getElem_cons_succ, List.getElem_cons_zero, Act.put, List.setIfInBounds_toArray, List.set_cons_zero, List.set_cons_succ]
        refine wpAnyH_ready (rs := [3]) (by kernel_rfl) (by simp) ?_
        refine AllReadyH.cons rfl (fun K hK => ?_) AllReadyH.nil
        go_simp
        go_at_call 30
        refine (toSpot_any _ _ _ _).mono ?_
        rintro e wc33 ⟨rfl, hbc⟩
        have HS33 : Hid (LB w w8 wc33 (.slice a N.pcs.length cap) (.slice a' N.jts.length cap') q at' way w6.heap.size (.slice (some ⟨c1, 0, none⟩) N.pcs.length N.pcs.length) (.slice (some ⟨c2, 0, none⟩) N.jts.length N.jts.length)) := keepLB hbc HS32.out
        have y6_33 := hide (Six.later (six_new wd 59) hbc)
        clear hbc
        go_wp2_with fail
        refine hK.out _ _ ?_ (fun _ => ?_)
        · exact HS33.out
        clear hK K
        try simp only [List.getElem_toArray, List.getElem_cons_succ, List.getElem_cons_zero, Act.put, List.setIfInBounds_toArray, List.set_cons_zero, List.set_cons_succ]
        refine wpAnyH_ready (rs := [5]) (by kernel_rfl) (by simp) ?_
        refine AllReadyH.cons rfl (fun K hK => ?_) AllReadyH.nil
        go_simp
        go_at_call 37
        refine (HD.out _ _ _ N _ _ _ xs _ _ _ _ _ HWF.out.1 HWF.out.2.1 HWF.out.2.2 hn HNS.out hl HLS.out hxs (HO8.out.later (HS33.out.2.out)).2.2.2.1 (HO8.out.later (HS33.out.2.out)).2.2.2.2.at (HI8.out.later (HS33.out.2.out))).mono ?_
        rintro e wc34 ⟨r, hDA, rfl, hbc⟩
        have HS34 : Hid (LB w w8 wc34 (.slice a N.pcs.length cap) (.slice a' N.jts.length cap') q at' way w6.heap.size (.slice (some ⟨c1, 0, none⟩) N.pcs.length N.pcs.length) (.slice (some ⟨c2, 0, none⟩) N.jts.length N.jts.length)) := keepLB hbc HS33.out
        have HDA2 := hide hDA
        clear hDA
        have y6_34 := hide (y6_33.out.later hbc)
        clear hbc
        go_wp2_with fail
        refine hK.out _ _ ?_ (fun _ => ?_)
        · exact HS34.out
        clear hK K
        try simp only [List.getElem_toArray, List.getElem_cons_succ, List.getElem_cons_zero, Act.put, List.setIfInBounds_toArray, List.set_cons_zero, List.set_cons_succ]
        obtain ⟨r0, r1, r2, r3, r4, r5, g0, g1, g2, g3, g4, g5⟩ := y6_34.out
        refine wpAnyH_ready (rs := [7]) (by kernel_rfl) (by simp) ?_
        refine AllReadyH.cons rfl (fun K hK => ?_) AllReadyH.nil
        rw [if_pos (by rfl)]
        simp only [List.getElem_toArray, List.getElem_cons_succ, List.getElem_cons_zero]
        go_big_op
        refine hK.out _ _ ?_ (fun _ => ?_)
        · exact keepLB6 HS34.out hzA hzw hz6 r
        clear hK K
        try simp only [List.getElem_toArray, List.getElem_cons_succ, List.getElem_cons_zero, Act.put, List.setIfInBounds_toArray, List.set_cons_zero, List.set_cons_succ]
        refine wpAnyH_done (by kernel_rfl) ?_ _
        go_wp2_with fail
        go_meet
        exact ⟨_, r, rfl, HDA2.out, In6.put y6_34.out r, keepLB6 HS34.out hzA hzw hz6 r⟩
    case rest =>
      obtain ⟨b2, r2, rfl, hDA2, hI62, hLB⟩ := hcut
      rename World => w10
      obtain rfl := driveA_one HDA.out hDA2
      have h8x := hLB.2.out
      have HLS10 := hide hLB.1.1
      have v0 := hLB.1.2.1
      have v1 := hLB.1.2.2
      have HO10 := hide (HO8.out.later h8x)
      have HI10 := hide (HI8.out.later h8x)
      obtain ⟨i0, i1, i2, i3, i4, i5⟩ := HI6.out.later h8x
      obtain ⟨j0, j1, j2, j3, j4, j5⟩ := hI62
      clear hDA2 hLB h8x HLS8 HO8 HI8 HI6
      go_wp2_with fail
      refine (eqDriven_same _ _ _ _ _ _ _).mono ?_
      rintro e w11 ⟨rfl, hb11⟩
      have HLS11 := hide (keepL hb11 HLS10.out)
      have HO11 := hide (HO10.out.later hb11)
      have HI11 := hide (HI10.out.later hb11)
      have v0 := cell_later' hb11 v0
      have v1 := cell_later' hb11 v1
      clear hb11 HLS10 HO10 HI10 i0 i1 i2 i3 i4 i5 j0 j1 j2 j3 j4 j5
      have h11 : Below w11.heap.size w11 w11.drew := (Below.refl _ _).drew
      go_upto_region 13 with fail
      go_region_held3 (fun w' => LB w w11 w' (.slice a N.pcs.length cap) (.slice a' N.jts.length cap') q at' way w6.heap.size (.slice (some ⟨c1, 0, none⟩) N.pcs.length N.pcs.length) (.slice (some ⟨c2, 0, none⟩) N.jts.length N.jts.length))
        (first
          | (exact ⟨⟨keepL h11 HLS11.out, cell_later' h11 v0, cell_later' h11 v1⟩, h11⟩)
          | (exact keepLB (by assumption) (by assumption)))
        (first
          | (go_at_call 16; refine (toNet_any a a' N cap cap' _ hn (HP.out.later (heldB HLS11.out |>.trans (h11.mono (heldB HLS11.out).size))) hl HLM.out (HJ.out.later (heldB HLS11.out |>.trans (h11.mono (heldB HLS11.out).size)))).mono ?_; rintro e w12 ⟨d1, d2, rfl, hO12, hb12⟩)
          | (go_at_call 19; refine (eqNet_same _ _ _ _ N _ _ _ _ _ hn hl HLM.out (HO11.out.later (chn h11 hb12)).2.2.2.1 hO12.2.2.2.1 (HO11.out.later (chn h11 hb12)).2.2.2.2.at hO12.2.2.2.2.at).mono ?_; rintro e w13 ⟨rfl, hb13⟩))
      rename_i hH
      have h13 := hH.2.out
      have HLS13 := hide hH.1.1
      have HI13 := hide (HI11.out.later h13)
      clear hH h13 hb12 hb13 hO12 HLS11 HO11 HI11 h11 v0 v1
      obtain ⟨t0, t1, e0, e1, e2⟩ := HLS13.out.1
      go_wp2_with fail
      refine (toIntS_any zl xs zlc _ hxs (HZ.out.later (heldB HLS13.out))).mono ?_
      rintro e w14 ⟨rfl, _, hI14, hb14⟩
      have HI14 := hide hI14
      have HJ14 := hide (HI13.out.later hb14)
      clear hI14 HI13
      go_wp2_with fail
      refine (eqIntS_same _ _ xs _ _ _ hxs HJ14.out HI14.out).mono ?_
      rintro e w15 ⟨rfl, hb15⟩
      have hBE := heldB (keepL (chn hb14 hb15) HLS13.out)
      go_wp2_with fail
      go_ret
      exact ⟨rfl, hBE⟩
end Go.Proofs.Ytplnppdlabpodaa
