/- The law FnFlip's walk. Own work, written by gen_flip.py. -/
import Derived.Test.YteapmddadieohaaLwTp
import Derived.Test.YteapmddadieohaaMxZA
import Derived.Test.YteapmddadieohaaMxAV
import Derived.Deep.CutRange
import Derived.BigRegion
namespace Go.Proofs.Yteapmddadieohaa
open Go.RowKit
set_option maxHeartbeats 8000000
set_option maxRecDepth 20000
set_option linter.unusedSimpArgs false

abbrev FlA (w2 wx : World) (bn : Nat) (v0 v1 : Value) : Prop := Box2 wx bn v0 v1 ∧ Hid (Below w2.heap.size w2 wx)
theorem keepFa {w2 wx wy : World} {bn : Nat} {v0 v1 : Value} (hb : Below wx.heap.size wx wy) (h : FlA w2 wx bn v0 v1) : FlA w2 wy bn v0 v1 := ⟨h.1.later hb, h.2.out.trans (hb.mono h.2.out.size)⟩
abbrev FlB (w11 wx : World) (bn bm bs bx : Nat) (v0 v1 u0 u1 : Value) (q at' wy : Int) (r : DRes) : Prop := (Box2 wx bn v0 v1 ∧ Box2 wx bm u0 u1 ∧ Box3 wx bs q at' wy ∧ In6 wx bx r) ∧ Hid (Below w11.heap.size w11 wx)
theorem keepFb {w11 w2 w3 : World} {bn bm bs bx : Nat} {v0 v1 u0 u1 : Value} {q at' wy : Int} {r : DRes} (hb : Below w2.heap.size w2 w3) (h : FlB w11 w2 bn bm bs bx v0 v1 u0 u1 q at' wy r) : FlB w11 w3 bn bm bs bx v0 v1 u0 u1 q at' wy r :=
  ⟨⟨h.1.1.later hb, h.1.2.1.later hb, h.1.2.2.1.later hb, h.1.2.2.2.later hb⟩, h.2.out.trans (hb.mono h.2.out.size)⟩
theorem keepFb6 {w11 w2 : World} {bn bm bs bx b : Nat} {v0 v1 u0 u1 : Value} {q at' wy : Int} {r : DRes} (h : FlB w11 w2 bn bm bs bx v0 v1 u0 u1 q at' wy r) (hb : w11.heap.size ≤ b) (hn : bn < w11.heap.size) (hm : bm < w11.heap.size) (hs : bs < w11.heap.size) (hx : bx < w11.heap.size) (y : DRes) : FlB w11 (set6 w2 b y) bn bm bs bx v0 v1 u0 u1 q at' wy r := by
  obtain ⟨⟨⟨a1, a2⟩, ⟨b1, b2⟩, ⟨c1, c2, c3⟩, d1, d2, d3, d4, d5, d6⟩, e⟩ := h
  exact ⟨⟨⟨set6_far y a1 (by omega), set6_far y a2 (by omega)⟩, ⟨set6_far y b1 (by omega), set6_far y b2 (by omega)⟩, ⟨set6_far y c1 (by omega), set6_far y c2 (by omega), set6_far y c3 (by omega)⟩, set6_far y d1 (by omega), set6_far y d2 (by omega), set6_far y d3 (by omega), set6_far y d4 (by omega), set6_far y d5 (by omega), set6_far y d6 (by omega)⟩, set6_below y e.out hb⟩
abbrev FlC (w12 wx : World) (bn bs bx b9 : Nat) (v0 v1 : Value) (q at' wy : Int) (r y : DRes) : Prop := (Box2 wx bn v0 v1 ∧ Box3 wx bs q at' wy ∧ In6 wx bx r ∧ In6 wx b9 y) ∧ Hid (Below w12.heap.size w12 wx)
theorem keepFc {w12 w2 w3 : World} {bn bs bx b9 : Nat} {v0 v1 : Value} {q at' wy : Int} {r y : DRes} (hb : Below w2.heap.size w2 w3) (h : FlC w12 w2 bn bs bx b9 v0 v1 q at' wy r y) : FlC w12 w3 bn bs bx b9 v0 v1 q at' wy r y :=
  ⟨⟨h.1.1.later hb, h.1.2.1.later hb, h.1.2.2.1.later hb, h.1.2.2.2.later hb⟩, h.2.out.trans (hb.mono h.2.out.size)⟩
theorem driveA_spotG {N : Nt} {xs : List Int} {q a wy far : Int} {r : DRes} (h : DriveA N xs q a wy far r) (hgood : goodP N xs q a wy far = true) : spotP N r.q r.at' r.way = true := by
  obtain ⟨g1, g2, g3, g4⟩ := good_all hgood
  unfold DriveA at h
  rw [if_pos hgood] at h
  obtain ⟨x, hx, rfl⟩ := h
  exact (drive_spot g1 g2 hx g3 g4.1).1
theorem net_ends {N : Nt} (h : netOk N = (0, 0)) : (∀ j ∈ N.jts, 0 < j.ends.length ∧ j.ends.length ≤ 1000) ∧ ∀ j ∈ N.jts, ∀ e ∈ j.ends, e.2 = 0 ∨ e.2 = 1 := by
  have h3 := (right_facts h).2.2.1
  refine ⟨fun j hj => ?_, fun j hj e he => ?_⟩
  · obtain ⟨i, hi, rfl⟩ := List.getElem_of_mem hj
    have := h3 i hi
    rw [jtBad3_jb3 hi] at this
    obtain ⟨⟨a, b⟩, c⟩ := jb3_len this
    omega
  · obtain ⟨i, hi, rfl⟩ := List.getElem_of_mem hj
    have := h3 i hi
    rw [jtBad3_eq hi] at this
    simp only [Bool.or_eq_false_iff, List.any_eq_false] at this
    have he' := this.2 e he
    simp [endOk, inR] at he'
    omega
theorem tmod_nat {x : Int} {n : Nat} (h0 : 0 ≤ x) (hn : 0 < n) : ∃ k : Nat, x.tmod (n : Int) = (k : Int) ∧ k < n := by
  refine ⟨(x.tmod (n : Int)).toNat, ?_, ?_⟩
  · have := Int.tmod_nonneg (n : Int) h0; omega
  · have := Int.tmod_nonneg (n : Int) h0
    have := Int.tmod_lt_of_pos x (show (0 : Int) < n by omega); omega

theorem fnFlip_walk (a z : Option Addr) (cap zc : Nat) (code more : List Int) (w : World) (hB : Bys code) (hB' : Bys more) (hn : code.length ≤ maxLen) (hn' : more.length ≤ maxLen) (hx : BytesAt w a code) (hz : BytesAt w z more) :
    Calls Try.prog 5 #[.slice a code.length cap, .slice z more.length zc] w fun e w' => e = .returned (.bool true) ∧ Below w.heap.size w w' := by
  have HB := hide hB
  have HB' := hide hB'
  have HX := hide hx
  have HZ := hide hz
  have hcm : (code.length : Int) ≤ 9223372036854775807 := by unfold maxLen at hn; omega
  have hmm : (more.length : Int) ≤ 9223372036854775807 := by unfold maxLen at hn'; omega
  have hA := wholeP_bd hB' 3
  clear hB hB' hx hz hn hn'
  by_cases hc : (1048576 : Int) < (code.length : Int)
  · have hc1 : decide ((1048576 : Int) < (code.length : Int)) = true := by rw [decide_eq_true_iff]; exact hc
    go_enter Try.func5, Try.ntmps5
    go_wp2_with fail
    go_ret
    exact ⟨rfl, Below.refl _ _⟩
  by_cases hm : (1048576 : Int) < (more.length : Int)
  · have hc1 : decide ((1048576 : Int) < (code.length : Int)) = false := by rw [decide_eq_false_iff_not]; exact hc
    have hm1 : decide ((1048576 : Int) < (more.length : Int)) = true := by rw [decide_eq_true_iff]; exact hm
    go_enter Try.func5, Try.ntmps5
    go_wp2_with fail
    go_ret
    exact ⟨rfl, Below.refl _ _⟩
  have hc1 : decide ((1048576 : Int) < (code.length : Int)) = false := by rw [decide_eq_false_iff_not]; exact hc
  have hm1 : decide ((1048576 : Int) < (more.length : Int)) = false := by rw [decide_eq_false_iff_not]; exact hm
  have hcl : code.length ≤ 1048576 := by omega
  have hml : more.length ≤ 1048576 := by omega
  have hNB : NetBd (netOfCode code) := netP_bd code ⟨0, 0⟩
  generalize hAe : wholeP more 3 = A at hA
  have HAE := hide hAe
  clear hc hm hcm hmm hAe
  go_enter Try.func5, Try.ntmps5
  go_wp2_with fail
  refine (nets_any a cap code _ HB.out hcl HX.out).mono ?_
  rintro e w1 ⟨pa, ja, pcap, jcap, rfl, hPA, hJA, hb1⟩
  have HRI := hide (show netOk (netOfCode code) = (0, 0) from netP_right code ⟨0, 0⟩)
  generalize netOfCode code = N at *
  have HNB := hide hNB
  have hnp := hNB.few
  have hnj := hNB.joints
  have HS9 := hide (show ∀ p ∈ N.pcs, p.name.size ≤ 1048576 from fun p hp => Nat.le_trans (hNB.names p hp) (by decide))
  have HM9 := hide (show ∀ j ∈ N.jts, j.name.size ≤ 1048576 ∧ j.ends.length ≤ 1048576 from fun j hj => ⟨Nat.le_trans (hNB.jends j hj).1 (by decide), Nat.le_trans (hNB.jends j hj).2 (by decide)⟩)
  have HP1 := hide hPA
  have HJ1 := hide hJA
  have HBW := hide hb1
  clear hPA hJA hb1 hNB
  go_wp2_with fail
  have hA2 := (Below.refl w1.heap.size w1).alloc (Nat.le_refl _) (.cells #[.slice pa N.pcs.length pcap, .slice ja N.jts.length jcap] 26)
  have n0 := new_cell w1 #[.slice pa N.pcs.length pcap, .slice ja N.jts.length jcap] 26 0 _ rfl
  have n1 := new_cell w1 #[.slice pa N.pcs.length pcap, .slice ja N.jts.length jcap] 26 1 _ rfl
  have HP2 := hide (HP1.out.later hA2)
  have HJ2 := hide (HJ1.out.later hA2)
  have HBW2 := hide (HBW.out.trans (hA2.mono HBW.out.size))
  clear hA2 HP1 HJ1 HBW
  generalize w1.alloc (.cells #[.slice pa N.pcs.length pcap, .slice ja N.jts.length jcap] 26) = w2 at *
  generalize w1.heap.size = bn at *
  have hK0 := byteP_bd HB'.out 0
  obtain ⟨k, hkt, hkl⟩ := tmod_nat hK0.1 (show 0 < N.pcs.length from HNB.out.some)
  have hki : (k : Int) < (N.pcs.length : Int) := by omega
  have HWB := hide (show ∀ W : World, BytesAt W z more → Calls Try.prog 15 #[.slice z more.length zc, .int .i64 0] W fun e w' => e = .returned (.int .i64 (byteP more 0)) ∧ Below W.heap.size W w' from fun W hW => by
    exact (wByte_any z zc more 0 W HB'.out hml (by omega) hW).mono fun e w' h' => ⟨h'.1, by rw [← h'.2]; exact Below.refl _ _⟩)
  have hne0 : ((N.pcs.length : Int) == 0) = false := by rw [beq_eq_false_iff_ne]; have := HNB.out.some; omega
  have hne1 : ¬ (N.pcs.length : Int) = 0 := by have := HNB.out.some; omega
  have hne2 : ¬ N.pcs.length = 0 := by have := HNB.out.some; omega
  have HSA : Hid (FlA w2 w2 bn (.slice pa N.pcs.length pcap) (.slice ja N.jts.length jcap)) := ⟨⟨n0, n1⟩, Below.refl _ _⟩
  generalize byteP more 0 = y0 at *
  clear hK0
  go_upto_region 4 with fail
  have h2 : Below w2.heap.size w2 w2.drew := (Below.refl _ _).drew
  go_region_held3 (fun w' => FlA w2 w' bn (.slice pa N.pcs.length pcap) (.slice ja N.jts.length jcap))
    (first
      | (exact keepFa h2 HSA.out)
      | (exact keepFa (by assumption) (by assumption)))
    (first
      | (go_at_call 15; refine (HWB.out _ (HZ.out.later (HBW2.out.trans (h2.mono HBW2.out.size)))).mono ?_; rintro e w3 ⟨rfl, hb3⟩))
  rename_i hH
  have hb23 := heldB hH
  have n0 := hH.1.1
  have n1 := hH.1.2
  have HP := hide (HP2.out.later hb23)
  have HJ := hide (HJ2.out.later hb23)
  have HBW := hide (HBW2.out.trans (hb23.mono HBW2.out.size))
  have HEN := hide (net_ends HRI.out)
  have hbn := cell_lt n0
  clear hH hb23 HP2 HJ2 HBW2 HSA h2 hkt hne0 hne1 hne2 HWB
  go_wp2_with fail
  refine (flipped_any pa ja N pcap jcap (k : Int) _ (by omega) (by omega) HEN.out.1 HEN.out.2 HP.out HJ.out).mono ?_
  rintro e w4 ⟨pm, jm, pmc, jmc, rfl, hPM, hJM, hb4⟩
  have HPM := hide hPM
  have HJM := hide hJM
  clear hPM hJM
  have n0 := cell_later' hb4 n0
  have n1 := cell_later' hb4 n1
  have hltn0 := cell_lt n0
  have HP := hide (HP.out.later hb4)
  have HJ := hide (HJ.out.later hb4)
  have HBW := hide (HBW.out.trans (hb4.mono HBW.out.size))
  clear hb4
  go_wp2_with fail
  have hAl := (Below.refl w4.heap.size w4).alloc (Nat.le_refl _) (.cells #[(.slice pm N.pcs.length pmc), (.slice jm N.jts.length jmc)] 26)
  have m0 := new_cell w4 #[(.slice pm N.pcs.length pmc), (.slice jm N.jts.length jmc)] 26 0 _ rfl
  have m1 := new_cell w4 #[(.slice pm N.pcs.length pmc), (.slice jm N.jts.length jmc)] 26 1 _ rfl
  have n0 := cell_later' hAl n0
  have n1 := cell_later' hAl n1
  have hltn0 := cell_lt n0
  have HP := hide (HP.out.later hAl)
  have HJ := hide (HJ.out.later hAl)
  have HBW := hide (HBW.out.trans (hAl.mono HBW.out.size))
  have HPM := hide (HPM.out.later hAl)
  have HJM := hide (HJM.out.later hAl)
  clear hAl
  generalize w4.alloc (.cells #[(.slice pm N.pcs.length pmc), (.slice jm N.jts.length jmc)] 26) = w5 at *
  generalize w4.heap.size = bm at *
  refine (aSpot_any pa ja a N pcap jcap cap code _ HNB.out HB.out hcl HP.out (HX.out.later HBW.out)).mono ?_
  rintro e w6 ⟨rfl, hb6⟩
  have HSP := hide (spot_drawn HNB.out code)
  generalize spotQ N code = q at *
  generalize spotA N code = at' at *
  generalize spotW N code = wy at *
  have n0 := cell_later' hb6 n0
  have n1 := cell_later' hb6 n1
  have m0 := cell_later' hb6 m0
  have m1 := cell_later' hb6 m1
  have hltn0 := cell_lt n0
  have hltm0 := cell_lt m0
  have HP := hide (HP.out.later hb6)
  have HJ := hide (HJ.out.later hb6)
  have HBW := hide (HBW.out.trans (hb6.mono HBW.out.size))
  have HPM := hide (HPM.out.later hb6)
  have HJM := hide (HJM.out.later hb6)
  clear hb6
  go_wp2_with fail
  have hAl := (Below.refl w6.heap.size w6).alloc (Nat.le_refl _) (.cells #[.int .i64 q, .int .i64 at', .int .i64 wy] 29)
  have s0 := new_cell w6 #[.int .i64 q, .int .i64 at', .int .i64 wy] 29 0 _ rfl
  have s1 := new_cell w6 #[.int .i64 q, .int .i64 at', .int .i64 wy] 29 1 _ rfl
  have s2 := new_cell w6 #[.int .i64 q, .int .i64 at', .int .i64 wy] 29 2 _ rfl
  have n0 := cell_later' hAl n0
  have n1 := cell_later' hAl n1
  have m0 := cell_later' hAl m0
  have m1 := cell_later' hAl m1
  have hltn0 := cell_lt n0
  have hltm0 := cell_lt m0
  have HP := hide (HP.out.later hAl)
  have HJ := hide (HJ.out.later hAl)
  have HBW := hide (HBW.out.trans (hAl.mono HBW.out.size))
  have HPM := hide (HPM.out.later hAl)
  have HJM := hide (HJM.out.later hAl)
  clear hAl
  generalize w6.alloc (.cells #[.int .i64 q, .int .i64 at', .int .i64 wy] 29) = w7 at *
  generalize w6.heap.size = bs at *
  refine (lies_any pa ja z N pcap jcap zc more _ HNB.out HB'.out hml HJ.out (HZ.out.later HBW.out)).mono ?_
  rintro e w8 ⟨v, rfl, how, hb8⟩
  have HXL := hide (liesL_bd N more)
  have HLR := hide (lies_right N more)
  have hxl : (liesL N more).length ≤ 1048576 := by rw [liesL_len]; omega
  generalize liesL N more = xs at *
  obtain ⟨zl, zlc, rfl, hIL⟩ := ints_of_owns how
  have HIL := hide hIL
  clear hIL how
  have n0 := cell_later' hb8 n0
  have n1 := cell_later' hb8 n1
  have m0 := cell_later' hb8 m0
  have m1 := cell_later' hb8 m1
  have s0 := cell_later' hb8 s0
  have s1 := cell_later' hb8 s1
  have s2 := cell_later' hb8 s2
  have hltn0 := cell_lt n0
  have hltm0 := cell_lt m0
  have hlts0 := cell_lt s0
  have HP := hide (HP.out.later hb8)
  have HJ := hide (HJ.out.later hb8)
  have HBW := hide (HBW.out.trans (hb8.mono HBW.out.size))
  have HPM := hide (HPM.out.later hb8)
  have HJM := hide (HJM.out.later hb8)
  clear hb8
  go_wp2_with fail
  refine (wWhole_any z zc more 3 _ HB'.out hml (by omega) (HZ.out.later HBW.out)).mono ?_
  rintro e w9 ⟨rfl, hw9⟩
  subst hw9
  rw [HAE.out]
  have HWX := hide (show ∀ x ∈ xs, (Lit.int .i64 x).wf = true from fun x hx => by have := HXL.out x hx; exact wf_int (by omega) (by omega))
  have HSB := hide (show (0 ≤ q ∧ q < N.pcs.length) ∧ (wy = 1 ∨ wy = -1) ∧ (0 ≤ at' ∧ at' ≤ lenAt N q) by
    have h := HSP.out
    have hw := spot_way h
    simp only [spotP, inR, Bool.and_eq_true, decide_eq_true_eq] at h
    exact ⟨⟨h.1.1.1, by omega⟩, hw, h.2⟩)
  have HWF := hide (show Wf3 q at' wy by
    have h := HSB.out
    have hl := lenAt_le HNB.out q
    exact ⟨wf_int (by omega) (by omega), wf_int (by omega) (by omega), wf_int (by omega) (by omega)⟩)
  go_wp2_with fail
  refine (implDrive_any _ _ _ N _ _ _ xs q at' wy A _ HWF.out (wf_int (by omega) (by omega)) HWX.out (by omega) HS9.out (by omega) HM9.out hxl HP.out HJ.out HIL.out).mono ?_
  rintro e w10 ⟨r, hDA, rfl, hb10⟩
  have HDA := hide hDA
  clear hDA
  have n0 := cell_later' hb10 n0
  have n1 := cell_later' hb10 n1
  have m0 := cell_later' hb10 m0
  have m1 := cell_later' hb10 m1
  have s0 := cell_later' hb10 s0
  have s1 := cell_later' hb10 s1
  have s2 := cell_later' hb10 s2
  have hltn0 := cell_lt n0
  have hltm0 := cell_lt m0
  have hlts0 := cell_lt s0
  have HP := hide (HP.out.later hb10)
  have HJ := hide (HJ.out.later hb10)
  have HBW := hide (HBW.out.trans (hb10.mono HBW.out.size))
  have HPM := hide (HPM.out.later hb10)
  have HJM := hide (HJM.out.later hb10)
  have HIL := hide (HIL.out.later hb10)
  clear hb10
  go_wp2_with fail
  have hAl := (Below.refl w10.heap.size w10).alloc (Nat.le_refl _) (.cells #[.int .i64 r.code, .int .i64 r.far, .int .i64 r.joint, .int .i64 r.q, .int .i64 r.at', .int .i64 r.way] 35)
  have x0 := new_cell w10 #[.int .i64 r.code, .int .i64 r.far, .int .i64 r.joint, .int .i64 r.q, .int .i64 r.at', .int .i64 r.way] 35 0 _ rfl
  have x1 := new_cell w10 #[.int .i64 r.code, .int .i64 r.far, .int .i64 r.joint, .int .i64 r.q, .int .i64 r.at', .int .i64 r.way] 35 1 _ rfl
  have x2 := new_cell w10 #[.int .i64 r.code, .int .i64 r.far, .int .i64 r.joint, .int .i64 r.q, .int .i64 r.at', .int .i64 r.way] 35 2 _ rfl
  have x3 := new_cell w10 #[.int .i64 r.code, .int .i64 r.far, .int .i64 r.joint, .int .i64 r.q, .int .i64 r.at', .int .i64 r.way] 35 3 _ rfl
  have x4 := new_cell w10 #[.int .i64 r.code, .int .i64 r.far, .int .i64 r.joint, .int .i64 r.q, .int .i64 r.at', .int .i64 r.way] 35 4 _ rfl
  have x5 := new_cell w10 #[.int .i64 r.code, .int .i64 r.far, .int .i64 r.joint, .int .i64 r.q, .int .i64 r.at', .int .i64 r.way] 35 5 _ rfl
  have n0 := cell_later' hAl n0
  have n1 := cell_later' hAl n1
  have m0 := cell_later' hAl m0
  have m1 := cell_later' hAl m1
  have s0 := cell_later' hAl s0
  have s1 := cell_later' hAl s1
  have s2 := cell_later' hAl s2
  have hltn0 := cell_lt n0
  have hltm0 := cell_lt m0
  have hlts0 := cell_lt s0
  have HP := hide (HP.out.later hAl)
  have HJ := hide (HJ.out.later hAl)
  have HBW := hide (HBW.out.trans (hAl.mono HBW.out.size))
  have HPM := hide (HPM.out.later hAl)
  have HJM := hide (HJM.out.later hAl)
  have HIL := hide (HIL.out.later hAl)
  clear hAl
  generalize w10.alloc (.cells #[.int .i64 r.code, .int .i64 r.far, .int .i64 r.joint, .int .i64 r.q, .int .i64 r.at', .int .i64 r.way] 35) = w11 at *
  generalize w10.heap.size = bx at *
  obtain ⟨fs, hfs⟩ : ∃ fs, flipS N k (q, at', wy) = fs := ⟨_, rfl⟩
  obtain ⟨fq, fa, fw⟩ := fs
  have HFS := hide hfs
  clear hfs
  have HFP := hide (show spotP (flipN k N) fq fa fw = true by have h := flip_spot (k := (k : Int)) HSP.out; rw [HFS.out] at h; exact h)
  have HFW := hide (show Wf3 fq fa fw by
    have h := HFP.out
    have hw := spot_way h
    have hl : 0 ≤ lenAt (flipN k N) fq ∧ lenAt (flipN k N) fq ≤ 300 := lenAt_le HNB.out fq
    simp only [spotP, inR, Bool.and_eq_true, decide_eq_true_eq] at h
    have hp : ((flipN k N).pcs.length : Int) = N.pcs.length := rfl
    exact ⟨wf_int (by omega) (by omega), wf_int (by omega) (by omega), wf_int (by omega) (by omega)⟩)
  have HWL := hide (show ∀ W : World, PcsAt W pa N.pcs → Calls Try.prog 17 #[.agg #[.slice pa N.pcs.length pcap, .slice ja N.jts.length jcap], .agg #[.int .i64 q, .int .i64 at', .int .i64 wy], .int .i64 (k : Int)] W fun e w' => e = .returned (.agg #[.int .i64 fq, .int .i64 fa, .int .i64 fw]) ∧ Below W.heap.size W w' from fun W hW => by
    have hsb := HSB.out
    have hl := lenAt_le HNB.out q
    have h := wFlip_any pa ja N pcap jcap q at' wy k W hkl HNB.out (by omega) hsb.2.1 hW
    rw [HFS.out] at h
    exact h)
  have HD2 := hide (show ∀ W : World, PcsAt W pm N.pcs → JtsAt W jm (flipN k N).jts → IntsAt W zl xs → Calls Try.prog 10 #[.agg #[.slice pm N.pcs.length pmc, .slice jm N.jts.length jmc], .slice zl xs.length zlc, .agg #[.int .i64 fq, .int .i64 fa, .int .i64 fw], .int .i64 A] W fun e w' => ∃ r : DRes, DriveA (flipN k N) xs fq fa fw A r ∧ e = .returned (.agg #[.int .i64 r.code, .int .i64 r.far, .int .i64 r.joint, .int .i64 r.q, .int .i64 r.at', .int .i64 r.way]) ∧ Below W.heap.size W w' from fun W h1 h2 h3 => by
    have h := implDrive_any pm jm zl (flipN k N) pmc jmc zlc xs fq fa fw A W HFW.out (wf_int (by omega) (by omega)) HWX.out (by show N.pcs.length ≤ 1048576; omega) HS9.out (by rw [flip_len]; omega) (fun j hj => by
      obtain ⟨j0, hj0, rfl⟩ := List.mem_map.1 hj
      have := HM9.out j0 hj0
      exact ⟨this.1, by simpa [flipJ] using this.2⟩) hxl h1 h2 h3
    rw [flip_len] at h
    exact h)
  have hl11n := cell_lt n0
  have hl11m := cell_lt m0
  have hl11s := cell_lt s0
  have hl11x := cell_lt x0
  have HST : Hid (FlB w11 w11 bn bm bs bx (.slice pa N.pcs.length pcap) (.slice ja N.jts.length jcap) (.slice pm N.pcs.length pmc) (.slice jm N.jts.length jmc) q at' wy r) := ⟨⟨⟨n0, n1⟩, ⟨m0, m1⟩, ⟨s0, s1, s2⟩, x0, x1, x2, x3, x4, x5⟩, Below.refl _ _⟩
  clear n0 n1 m0 m1 s0 s1 s2 x0 x1 x2 x3 x4 x5
  go_cut [12] (fun s12 wx => ∃ (b9 : Nat) (y : DRes), s12 = .pointer (some ⟨b9, 0, none⟩) ∧ DriveA (flipN k N) xs fq fa fw A y ∧ In6 wx b9 y ∧ FlB w11 wx bn bm bs bx (.slice pa N.pcs.length pcap) (.slice ja N.jts.length jcap) (.slice pm N.pcs.length pmc) (.slice jm N.jts.length jmc) q at' wy r)
  case first =>
    refine wp_region_held_drew (S := fun wx => FlB w11 wx bn bm bs bx (.slice pa N.pcs.length pcap) (.slice ja N.jts.length jcap) (.slice pm N.pcs.length pmc) (.slice jm N.jts.length jmc) q at' wy r) (by kernel_rfl) ?_ (fun _ => ?_)
    · exact keepFb ((Below.refl _ _).drew) HST.out
    have HS0 : Hid (FlB w11 w11.drew bn bm bs bx (.slice pa N.pcs.length pcap) (.slice ja N.jts.length jcap) (.slice pm N.pcs.length pmc) (.slice jm N.jts.length jmc) q at' wy r) := keepFb ((Below.refl _ _).drew) HST.out
    generalize w11.drew = wd at *
    refine wpAnyH_take (i := 0) (v := ?v0) rfl (by kernel_rfl) (by kernel_rfl) (by kernel_rfl) (fun _ _ _ h => h) (Or.inl ⟨by rfl, ?hy0⟩) HS0.out ?rest0
    case hy0 => (intro w hSw; (try dsimp only at hSw); go_simp; try with_reducible rfl)
    try simp only [List.getElem_toArray, List.getElem_cons_succ, List.getElem_cons_zero, Act.put, List.setIfInBounds_toArray, List.set_cons_zero, List.set_cons_succ]
    refine wpAnyH_take (i := 1) (v := ?v1) rfl (by kernel_rfl) (by kernel_rfl) (by kernel_rfl) (fun _ _ _ h => h) (Or.inl ⟨by rfl, ?hy1⟩) HS0.out ?rest1
    case hy1 => (intro w hSw; (try dsimp only at hSw); go_simp; try with_reducible rfl)
    try simp only [List.getElem_toArray, List.getElem_cons_succ, List.getElem_cons_zero, Act.put, List.setIfInBounds_toArray, List.set_cons_zero, List.set_cons_succ]
    refine wpAnyH_take (i := 2) (v := ?v2) rfl (by kernel_rfl) (by kernel_rfl) (by kernel_rfl) (fun _ _ _ h => h) (Or.inl ⟨by rfl, ?hy2⟩) HS0.out ?rest2
    case hy2 => (intro w hSw; (try dsimp only at hSw); go_simp; try with_reducible rfl)
    try simp only [List.getElem_toArray, List.getElem_cons_succ, List.getElem_cons_zero, Act.put, List.setIfInBounds_toArray, List.set_cons_zero, List.set_cons_succ]
    refine wpAnyH_take (i := 3) (v := ?v3) rfl (by kernel_rfl) (by kernel_rfl) (by kernel_rfl) (fun _ _ _ h => h) (Or.inl ⟨by rfl, ?hy3⟩) HS0.out ?rest3
    case hy3 => (intro w hSw; (try dsimp only at hSw); go_simp; try with_reducible rfl)
    try simp only [List.getElem_toArray, List.getElem_cons_succ, List.getElem_cons_zero, Act.put, List.setIfInBounds_toArray, List.set_cons_zero, List.set_cons_succ]
    refine wpAnyH_take (i := 4) (v := ?v4) rfl (by kernel_rfl) (by kernel_rfl) (by kernel_rfl) (fun _ _ _ h => h) (Or.inl ⟨by rfl, ?hy4⟩) HS0.out ?rest4
    case hy4 => (intro w hSw; (try dsimp only at hSw); go_simp; try with_reducible rfl)
    try simp only [List.getElem_toArray, List.getElem_cons_succ, List.getElem_cons_zero, Act.put, List.setIfInBounds_toArray, List.set_cons_zero, List.set_cons_succ]
    refine wpAnyH_take (i := 6) (v := ?v5) rfl (by kernel_rfl) (by kernel_rfl) (by kernel_rfl) (fun _ _ _ h => h) (Or.inl ⟨by rfl, ?hy5⟩) HS0.out ?rest5
    case hy5 => (intro w hSw; (try dsimp only at hSw); go_simp; try with_reducible rfl)
    try simp only [List.getElem_toArray, List.getElem_cons_succ, List.getElem_cons_zero, Act.put, List.setIfInBounds_toArray, List.set_cons_zero, List.set_cons_succ]
    refine wpAnyH_ready (rs := [5, 8]) (by kernel_rfl) (by simp) ?_
    refine AllReadyH.cons rfl (fun K hK => ?_) (AllReadyH.cons rfl (fun K hK => ?_) AllReadyH.nil)
    · go_simp
      go_at_call 17
      refine (HWL.out _ (HP.out.later (heldB HS0.out))).mono ?_
      rintro e wc6 ⟨rfl, hbc⟩
      have HS6 : Hid (FlB w11 wc6 bn bm bs bx (.slice pa N.pcs.length pcap) (.slice ja N.jts.length jcap) (.slice pm N.pcs.length pmc) (.slice jm N.jts.length jmc) q at' wy r) := keepFb hbc HS0.out
      clear hbc
      go_wp2_with fail
      refine hK.out _ _ ?_ (fun _ => ?_)
      · exact HS6.out
      clear hK K
      try simp only [List.getElem_toArray, List.getElem_cons_succ, List.getElem_cons_zero, Act.put, List.setIfInBounds_toArray, List.set_cons_zero, List.set_cons_succ]
      refine wpAnyH_ready (rs := [7, 8]) (by kernel_rfl) (by simp) ?_
      refine AllReadyH.cons rfl (fun K hK => ?_) (AllReadyH.cons rfl (fun K hK => ?_) AllReadyH.nil)
      · go_simp
        go_at_call 10
        refine (HD2.out _ (HPM.out.later (heldB HS6.out)) (HJM.out.later (heldB HS6.out)) (HIL.out.later (heldB HS6.out))).mono ?_
        rintro e wc7 ⟨y, hDY, rfl, hbc⟩
        have HS7 : Hid (FlB w11 wc7 bn bm bs bx (.slice pa N.pcs.length pcap) (.slice ja N.jts.length jcap) (.slice pm N.pcs.length pmc) (.slice jm N.jts.length jmc) q at' wy r) := keepFb hbc HS6.out
        have HDY := hide hDY
        clear hDY
        clear hbc
        go_wp2_with fail
        refine hK.out _ _ ?_ (fun _ => ?_)
        · exact HS7.out
        clear hK K
        try simp only [List.getElem_toArray, List.getElem_cons_succ, List.getElem_cons_zero, Act.put, List.setIfInBounds_toArray, List.set_cons_zero, List.set_cons_succ]
        refine wpAnyH_ready (rs := [8]) (by kernel_rfl) (by simp) ?_
        refine AllReadyH.cons rfl (fun K hK => ?_) AllReadyH.nil
        go_simp
        have hal := (Below.refl wc7.heap.size wc7).alloc (Nat.le_refl _) (.cells #[.int .i64 0, .int .i64 0, .int .i64 0, .int .i64 0, .int .i64 0, .int .i64 0] 35)
        have hzA := (heldB HS7.out).size
        have HS8 := hide (keepFb hal HS7.out)
        clear hal
        refine hK.out _ _ ?_ (fun _ => ?_)
        · exact HS8.out
        clear hK K
        try simp only [List.getElem_toArray, List.getElem_cons_succ, List.getElem_cons_zero, Act.put, List.setIfInBounds_toArray, List.set_cons_zero, List.set_cons_succ]
        refine wpAnyH_ready (rs := [9]) (by kernel_rfl) (by simp) ?_
        refine AllReadyH.cons rfl (fun K hK => ?_) AllReadyH.nil
        go_simp
        refine hK.out _ _ ?_ (fun _ => ?_)
        · exact keepFb ((Below.refl wc7.heap.size wc7).alloc (Nat.le_refl _) _) HS7.out
        clear hK K
        try simp only [List.getElem_toArray, List.getElem_cons_succ, List.getElem_cons_zero, Act.put, List.setIfInBounds_toArray, List.set_cons_zero, List.set_cons_succ]
        refine wpAnyH_done (by kernel_rfl) ?_ _
        go_wp2_with fail
        go_meet
        exact ⟨_, y, rfl, HDY.out, ⟨new_cell wc7 _ _ 0 _ rfl, new_cell wc7 _ _ 1 _ rfl, new_cell wc7 _ _ 2 _ rfl, new_cell wc7 _ _ 3 _ rfl, new_cell wc7 _ _ 4 _ rfl, new_cell wc7 _ _ 5 _ rfl⟩, keepFb ((Below.refl wc7.heap.size wc7).alloc (Nat.le_refl _) _) HS7.out⟩
      · go_simp
        have hal := (Below.refl wc6.heap.size wc6).alloc (Nat.le_refl _) (.cells #[.int .i64 0, .int .i64 0, .int .i64 0, .int .i64 0, .int .i64 0, .int .i64 0] 35)
        have hzA := (heldB HS6.out).size
        have HS9 := hide (keepFb hal HS6.out)
        clear hal
        refine hK.out _ _ ?_ (fun _ => ?_)
        · exact HS9.out
        clear hK K
        try simp only [List.getElem_toArray, List.getElem_cons_succ, List.getElem_cons_zero, Act.put, List.setIfInBounds_toArray, List.set_cons_zero, List.set_cons_succ]
        refine wpAnyH_ready (rs := [7]) (by kernel_rfl) (by simp) ?_
        refine AllReadyH.cons rfl (fun K hK => ?_) AllReadyH.nil
        go_simp
        go_at_call 10
        refine (HD2.out _ (HPM.out.later (heldB HS9.out)) (HJM.out.later (heldB HS9.out)) (HIL.out.later (heldB HS9.out))).mono ?_
        rintro e wc10 ⟨y, hDY, rfl, hbc⟩
        have HS10 : Hid (FlB w11 wc10 bn bm bs bx (.slice pa N.pcs.length pcap) (.slice ja N.jts.length jcap) (.slice pm N.pcs.length pmc) (.slice jm N.jts.length jmc) q at' wy r) := keepFb hbc HS9.out
        have HDY := hide hDY
        clear hDY
        have y6_10 := hide (Six.later (six_new wc6 35) hbc)
        clear hbc
        go_wp2_with fail
        refine hK.out _ _ ?_ (fun _ => ?_)
        · exact HS10.out
        clear hK K
        try simp only [List.getElem_toArray, List.getElem_cons_succ, List.getElem_cons_zero, Act.put, List.setIfInBounds_toArray, List.set_cons_zero, List.set_cons_succ]
        obtain ⟨r0, r1, r2, r3, r4, r5, g0, g1, g2, g3, g4, g5⟩ := y6_10.out
        refine wpAnyH_ready (rs := [9]) (by kernel_rfl) (by simp) ?_
        refine AllReadyH.cons rfl (fun K hK => ?_) AllReadyH.nil
        rw [if_pos (by rfl)]
        simp only [List.getElem_toArray, List.getElem_cons_succ, List.getElem_cons_zero]
        go_big_op
        refine hK.out _ _ ?_ (fun _ => ?_)
        · exact keepFb6 HS10.out hzA hl11n hl11m hl11s hl11x y
        clear hK K
        try simp only [List.getElem_toArray, List.getElem_cons_succ, List.getElem_cons_zero, Act.put, List.setIfInBounds_toArray, List.set_cons_zero, List.set_cons_succ]
        refine wpAnyH_done (by kernel_rfl) ?_ _
        go_wp2_with fail
        go_meet
        exact ⟨_, y, rfl, HDY.out, In6.put y6_10.out y, keepFb6 HS10.out hzA hl11n hl11m hl11s hl11x y⟩
    · go_simp
      have hal := (Below.refl wd.heap.size wd).alloc (Nat.le_refl _) (.cells #[.int .i64 0, .int .i64 0, .int .i64 0, .int .i64 0, .int .i64 0, .int .i64 0] 35)
      have hzA := (heldB HS0.out).size
      have HS11 := hide (keepFb hal HS0.out)
      clear hal
      refine hK.out _ _ ?_ (fun _ => ?_)
      · exact HS11.out
      clear hK K
      try simp only [List.getElem_toArray, List.getElem_cons_succ, List.getElem_cons_zero, Act.put, List.setIfInBounds_toArray, List.set_cons_zero, List.set_cons_succ]
      refine wpAnyH_ready (rs := [5]) (by kernel_rfl) (by simp) ?_
      refine AllReadyH.cons rfl (fun K hK => ?_) AllReadyH.nil
      go_simp
      go_at_call 17
      refine (HWL.out _ (HP.out.later (heldB HS11.out))).mono ?_
      rintro e wc12 ⟨rfl, hbc⟩
      have HS12 : Hid (FlB w11 wc12 bn bm bs bx (.slice pa N.pcs.length pcap) (.slice ja N.jts.length jcap) (.slice pm N.pcs.length pmc) (.slice jm N.jts.length jmc) q at' wy r) := keepFb hbc HS11.out
      have y6_12 := hide (Six.later (six_new wd 35) hbc)
      clear hbc
      go_wp2_with fail
      refine hK.out _ _ ?_ (fun _ => ?_)
      · exact HS12.out
      clear hK K
      try simp only [List.getElem_toArray, List.getElem_cons_succ, List.getElem_cons_zero, Act.put, List.setIfInBounds_toArray, List.set_cons_zero, List.set_cons_succ]
      refine wpAnyH_ready (rs := [7]) (by kernel_rfl) (by simp) ?_
      refine AllReadyH.cons rfl (fun K hK => ?_) AllReadyH.nil
      go_simp
      go_at_call 10
      refine (HD2.out _ (HPM.out.later (heldB HS12.out)) (HJM.out.later (heldB HS12.out)) (HIL.out.later (heldB HS12.out))).mono ?_
      rintro e wc13 ⟨y, hDY, rfl, hbc⟩
      have HS13 : Hid (FlB w11 wc13 bn bm bs bx (.slice pa N.pcs.length pcap) (.slice ja N.jts.length jcap) (.slice pm N.pcs.length pmc) (.slice jm N.jts.length jmc) q at' wy r) := keepFb hbc HS12.out
      have HDY := hide hDY
      clear hDY
      have y6_13 := hide (y6_12.out.later hbc)
      clear hbc
      go_wp2_with fail
      refine hK.out _ _ ?_ (fun _ => ?_)
      · exact HS13.out
      clear hK K
      try simp only [List.getElem_toArray, List.getElem_cons_succ, List.getElem_cons_zero, Act.put, List.setIfInBounds_toArray, List.set_cons_zero, List.set_cons_succ]
      obtain ⟨r0, r1, r2, r3, r4, r5, g0, g1, g2, g3, g4, g5⟩ := y6_13.out
      refine wpAnyH_ready (rs := [9]) (by kernel_rfl) (by simp) ?_
      refine AllReadyH.cons rfl (fun K hK => ?_) AllReadyH.nil
      rw [if_pos (by rfl)]
      simp only [List.getElem_toArray, List.getElem_cons_succ, List.getElem_cons_zero]
      go_big_op
      refine hK.out _ _ ?_ (fun _ => ?_)
      · exact keepFb6 HS13.out hzA hl11n hl11m hl11s hl11x y
      clear hK K
      try simp only [List.getElem_toArray, List.getElem_cons_succ, List.getElem_cons_zero, Act.put, List.setIfInBounds_toArray, List.set_cons_zero, List.set_cons_succ]
      refine wpAnyH_done (by kernel_rfl) ?_ _
      go_wp2_with fail
      go_meet
      exact ⟨_, y, rfl, HDY.out, In6.put y6_13.out y, keepFb6 HS13.out hzA hl11n hl11m hl11s hl11x y⟩
  case rest =>
    obtain ⟨b9, y, rfl, hDY, hY6, hBX⟩ := hcut
    rename World => w12
    have hgo := good_mk HRI.out HLR.out HSP.out (show 0 ≤ A ∧ A ≤ 1000000 by omega)
    have hsr := driveA_spotG HDA.out hgo
    obtain ⟨e0, e1, e2, e3⟩ := flip_A (k := (k : Int)) HRI.out HLR.out HSP.out (show 0 ≤ A ∧ A ≤ 1000000 by omega) HDA.out (by rw [HFS.out]; exact hDY)
    obtain ⟨yc, yf, yj, yq, ya, yw, yp⟩ := y
    dsimp only at e0 e1 e2 e3 hY6
    subst e0
    subst e1
    subst e2
    have h112 := heldB hBX
    have HP12 := hide (HP.out.later h112)
    have HJ12 := hide (HJ.out.later h112)
    have HIL12 := hide (HIL.out.later h112)
    have HBW12 := hide (HBW.out.trans (h112.mono HBW.out.size))
    have HWR := hide (show ∀ W : World, PcsAt W pa N.pcs → Calls Try.prog 17 #[.agg #[.slice pa N.pcs.length pcap, .slice ja N.jts.length jcap], .agg #[.int .i64 r.q, .int .i64 r.at', .int .i64 r.way], .int .i64 (k : Int)] W fun e w' => e = .returned (.agg #[.int .i64 yq, .int .i64 ya, .int .i64 yw]) ∧ Below W.heap.size W w' from fun W hW => by
      have h := hsr
      have hw := spot_way h
      have hl := lenAt_le HNB.out r.q
      simp only [spotP, inR, Bool.and_eq_true, decide_eq_true_eq] at h
      have h := wFlip_any pa ja N pcap jcap r.q r.at' r.way k W hkl HNB.out (by omega) hw hW
      rw [← e3] at h
      exact h)
    have HSY : Hid (FlC w12 w12 bn bs bx b9 (.slice pa N.pcs.length pcap) (.slice ja N.jts.length jcap) q at' wy r ⟨r.code, r.far, r.joint, yq, ya, yw, yp⟩) := ⟨⟨hBX.1.1, hBX.1.2.2.1, hBX.1.2.2.2, hY6⟩, Below.refl _ _⟩
    clear hDY hY6 hBX h112 HST HP HJ HIL HBW e3 hsr hgo
    have h12 : Below w12.heap.size w12 w12.drew := (Below.refl _ _).drew
    go_upto_region 11 with fail
    go_region_held3 (fun w' => FlC w12 w' bn bs bx b9 (.slice pa N.pcs.length pcap) (.slice ja N.jts.length jcap) q at' wy r ⟨r.code, r.far, r.joint, yq, ya, yw, yp⟩)
      (first
        | (exact keepFc h12 HSY.out)
        | (exact keepFc (by assumption) (by assumption)))
      (first
        | (go_at_call 17; refine (HWR.out _ (HP12.out.later h12)).mono ?_; rintro e w13 ⟨rfl, hb13⟩)
        | (go_at_call 11; refine (specDrive_any _ _ _ N _ _ _ xs q at' wy A _ (by omega) HS9.out (by omega) HM9.out hxl (HP12.out.later (chn h12 hb13)) (HJ12.out.later (chn h12 hb13)) (HIL12.out.later (chn h12 hb13))).mono ?_; rintro e w14 ⟨r', hr', rfl, hb14⟩; obtain rfl := driveA_one HDA.out hr'))
    rename_i hH
    have HBF := hide (HBW12.out.trans ((heldB hH).mono HBW12.out.size))
    go_wp2_with fail
    go_ret
    exact ⟨rfl, HBF.out⟩
end Go.Proofs.Yteapmddadieohaa
