/- The walk of FnText. Own work. -/
import Derived.Test.YtcodpnkfpmjleaaGreatDoorMxAK
import Derived.Test.YtcodpnkfpmjleaaGreatDoorMxAM
import Derived.Test.YtcodpnkfpmjleaaGreatDoorMxAN
import Derived.Test.YtcodpnkfpmjleaaGreatDoorMxAT
import Derived.Test.YtcodpnkfpmjleaaGreatDoorMxBA
import Derived.Test.YtcodpnkfpmjleaaGreatDoorRows
import Derived.ProofKit
import Derived.OpenShut
import Derived.ChangeOld
import Derived.LaidMore
import Derived.LaidLaws
import Derived.LaidHandle
import Derived.Lay
import Derived.HandedShaped
import Derived.Shelf.Vars
import Derived.Stop.Joined
namespace Go.Proofs.YtcodpnkfpmjleaaGreatDoor
open Go.RowKit
set_option maxHeartbeats 4000000
set_option maxRecDepth 100000

theorem looseT_any (s : ByteArray) (z : Option Addr) (zc : Nat) (more : List Int) (w : World) (hB : Bys more) (hn : more.length ≤ 1048576) (hs : s.size ≤ 65536) (hx : BytesAt w z more) :
    Calls Tryz.prog 9 #[.string s, .slice z more.length zc] w fun e w' =>
    ∃ o : ByteArray, e = .returned (.string o) ∧ LI (linesL (bs s)) (linesL (bs s)).length (bs o) ∧ Below w.heap.size w w' := by
  have hA : Below w.heap.size w (w.alloc (.cells #[.slice z more.length zc, .int .i64 0, .int .u64 0] 57)) := (Below.refl _ _).alloc (Nat.le_refl _) _
  have HC := hide (cur_new (w := w) (a := z) (n := more.length) (cap := zc))
  have HO := hide (off_of hx (B := w.heap.size) (by omega))
  have HX := hide (hx.later hA)
  have HB := hide hB
  have HA := hide hA
  clear hA hx hB
  go_enter Tryz.func9, Tryz.ntmps9
  go_wp2_with fail
  refine (loose_any w.heap.size z zc more ⟨0, 0⟩ s _ HB.out (by simp) hn HO.out hs HC.out HX.out).mono ?_
  rintro e w2 ⟨o, c', rfl, hL, _, _, hm⟩
  have HL := hide hL
  have HB2 := hide (HA.out.trans ((hm.below (by simp)).mono (by simp)))
  clear hL hm
  go_wp2_with fail
  go_ret
  exact ⟨o, rfl, HL.out, HB2.out⟩

/-- What is told of a net, as rows. -/
theorem post_net {c l : Int} {N : Nt} {w w' : World} {e : Ending} (h : ReadPost (c, l, N) w e w') : ∃ pa pcap ja jcap, e = .returned (.agg #[.int .i64 c, .int .i64 l, .slice pa N.pcs.length pcap, .slice ja N.jts.length jcap]) ∧ PcsAt w' pa N.pcs ∧ JtsAt w' ja N.jts ∧ Below w.heap.size w w' := by
  obtain ⟨pv, jv, js, rfl, h1, h2, h3, h4⟩ := h
  obtain ⟨pa, pcap, rfl, hp⟩ := pcs_at_of h1
  obtain ⟨ja, jcap, rfl, hj⟩ := kjts_at_of h2
  have hl : js.length = N.jts.length := by rw [← show js.map (fun t : Jr => t.jt) = N.jts from h3]; simp
  rw [show js.map (·.jt) = N.jts from h3] at hj
  exact ⟨pa, pcap, ja, jcap, by rw [hl], hp, hj, h4⟩
theorem implReadNet_str (s : ByteArray) (w : World) (hl : s.size ≤ 1048576) (hM : MX w) (hg : w.cell? ⟨0, 0, none⟩ = some (rtI 77)) :
    Calls Tryz.prog 8 #[.string s] w fun e w' => ReadPost (toldP s) w e w' := by
  have h := implReadNet_any (bs s) w (by rw [bs_len]; exact hl) hM hg
  rw [sb_bs] at h
  exact h
theorem text_bd {N : Nt} (h : netOk N = (0, 0)) (hb : NetBd N) : (wText N).size ≤ 4500 ∧ (wText N).toList.isEmpty = false := by
  have R := rightN h
  have h1 := wJts_size R N.jts.length (Nat.le_refl _) (wPcs N.pcs ⟨#[]⟩)
  have h2 := wPcs_size' R N.pcs.length (Nat.le_refl _)
  rw [List.take_length] at h1 h2
  have h3 := hb.few
  have h4 := hb.joints
  have h5 : (wText N).size ≤ 4500 := by unfold wText; omega
  refine ⟨h5, ?_⟩
  rw [isEmpty_size, decide_eq_false_iff_not]
  intro h0
  have ht := told_text h (by omega)
  have e : wText N = sb [] := by
    rw [← sb_bs (wText N)]
    congr 1
    exact List.length_eq_zero_iff.1 (by rw [bs_len]; exact h0)
  rw [e] at ht
  have e2 : (toldP (sb [])).1 = 6 := by decide +kernel
  rw [ht] at e2
  exact absurd (show (0 : Int) = 6 from e2) (by decide)

theorem fnText_walk (a z : Option Addr) (cap zc : Nat) (code more : List Int) (w : World) (hB : Bys code) (hB' : Bys more) (hn : code.length ≤ maxLen) (hn' : more.length ≤ maxLen) (hx : BytesAt w a code) (hz : BytesAt w z more) (hT : Tab w) (hM : MX w) (hg : w.cell? ⟨0, 0, none⟩ = some (rtI 77)) :
    Calls Tryz.prog 3 #[.slice a code.length cap, .slice z more.length zc] w fun e w' => e = .returned (.bool true) ∧ Below w.heap.size w w' := by
  have HB := hide hB
  have HB' := hide hB'
  have HX := hide hx
  have HZ := hide hz
  have HTB := hide hT
  have HMX := hide hM
  have HG := hide hg
  have hcm : (code.length : Int) ≤ 9223372036854775807 := by unfold maxLen at hn; omega
  have hmm : (more.length : Int) ≤ 9223372036854775807 := by unfold maxLen at hn'; omega
  clear hB hB' hx hz hn hn' hT hM hg
  by_cases hc : (1048576 : Int) < (code.length : Int)
  · have hc1 : decide ((1048576 : Int) < (code.length : Int)) = true := by rw [decide_eq_true_iff]; exact hc
    go_enter Tryz.func3, Tryz.ntmps3
    go_wp2_with fail
    go_ret
    exact ⟨rfl, Below.refl _ _⟩
  by_cases hm : (1048576 : Int) < (more.length : Int)
  · have hc1 : decide ((1048576 : Int) < (code.length : Int)) = false := by rw [decide_eq_false_iff_not]; exact hc
    have hm1 : decide ((1048576 : Int) < (more.length : Int)) = true := by rw [decide_eq_true_iff]; exact hm
    go_enter Tryz.func3, Tryz.ntmps3
    go_wp2_with fail
    go_ret
    exact ⟨rfl, Below.refl _ _⟩
  have hc1 : decide ((1048576 : Int) < (code.length : Int)) = false := by rw [decide_eq_false_iff_not]; exact hc
  have hm1 : decide ((1048576 : Int) < (more.length : Int)) = false := by rw [decide_eq_false_iff_not]; exact hm
  have hcl : code.length ≤ 1048576 := by omega
  have hml : more.length ≤ 1048576 := by omega
  have hNB : NetBd (netOfCode code) := netP_bd code ⟨0, 0⟩
  have hOK : netOk (netOfCode code) = (0, 0) := netP_right code ⟨0, 0⟩
  clear hc hm hcm hmm
  go_enter Tryz.func3, Tryz.ntmps3
  go_wp2_with fail
  refine (nets_any a cap code _ HB.out hcl HX.out).mono ?_
  rintro e w1 ⟨pa, ja, pcap, jcap, rfl, hPA, hJA, hb1⟩
  generalize netOfCode code = N at *
  have hnp := hNB.few
  have hnj := hNB.joints
  have HS9 := hide (show ∀ p ∈ N.pcs, p.name.size ≤ 1048576 from fun p hp => Nat.le_trans (hNB.names p hp) (by decide))
  have HM9 := hide (show ∀ j ∈ N.jts, j.name.size ≤ 1048576 ∧ j.ends.length ≤ 1048576 from fun j hj => ⟨Nat.le_trans (hNB.jends j hj).1 (by decide), Nat.le_trans (hNB.jends j hj).2 (by decide)⟩)
  have HWR := hide (show wRes N = wText N by unfold wRes; rw [if_pos hOK])
  obtain ⟨htz, hte⟩ := text_bd hOK hNB
  have HT1 := hide (told_text hOK (by omega))
  have HT2 := hide (fun (o : ByteArray) (h : LI (linesL (bs (wText N))) (linesL (bs (wText N))).length (bs o)) => told_loose hOK (o := o) (by omega) h)
  have HT3 := hide (fun (o : ByteArray) (h : LI (linesL (bs (wText N))) (linesL (bs (wText N))).length (bs o)) => show o.size ≤ 1048576 by
    have := h.done.2
    rw [bs_len, bs_len] at this
    omega)
  generalize wText N = T at *
  have HP1 := hide hPA
  have HJ1 := hide hJA
  have HBW := hide hb1
  clear hPA hJA hb1 hNB hOK hc1 hm1
  go_wp2_with fail
  have hA2 := (Below.refl w1.heap.size w1).alloc (Nat.le_refl _) (.cells #[.slice pa N.pcs.length pcap, .slice ja N.jts.length jcap] 26)
  have n0 := new_cell w1 #[.slice pa N.pcs.length pcap, .slice ja N.jts.length jcap] 26 0 _ rfl
  have n1 := new_cell w1 #[.slice pa N.pcs.length pcap, .slice ja N.jts.length jcap] 26 1 _ rfl
  have HP2 := hide (HP1.out.later hA2)
  have HJ2 := hide (HJ1.out.later hA2)
  have HBW2 := hide (HBW.out.trans (hA2.mono HBW.out.size))
  clear hA2 HP1 HJ1 HBW
  generalize w1.alloc (.cells #[.slice pa N.pcs.length pcap, .slice ja N.jts.length jcap] 26) = w2 at *
  generalize w1.heap.size = bn at *
  refine (implWriteNet_res pa ja N pcap jcap _ (by omega) HS9.out (by omega) HM9.out HP2.out HJ2.out (HTB.out.later HBW2.out)).mono ?_
  rintro e w3 ⟨rfl, hb3⟩
  rw [HWR.out]
  have HP3 := hide (HP2.out.later hb3)
  have HJ3 := hide (HJ2.out.later hb3)
  have HBW3 := hide (HBW2.out.trans (hb3.mono HBW2.out.size))
  have n0 := cell_later' hb3 n0
  have n1 := cell_later' hb3 n1
  clear hb3 HP2 HJ2 HBW2
  go_wp2_with fail
  refine (specWriteNet_res pa ja N pcap jcap _ (by omega) HS9.out (by omega) HM9.out HP3.out HJ3.out).mono ?_
  rintro e w4 ⟨rfl, hb4⟩
  rw [HWR.out]
  have HP4 := hide (HP3.out.later hb4)
  have HJ4 := hide (HJ3.out.later hb4)
  have HBW4 := hide (HBW3.out.trans (hb4.mono HBW3.out.size))
  have n0 := cell_later' hb4 n0
  have n1 := cell_later' hb4 n1
  clear hb4 HP3 HJ3 HBW3
  go_wp2_with fail
  refine (implReadNet_str T _ (by omega) (HMX.out.later HBW4.out) (cell_later' HBW4.out HG.out)).mono ?_
  intro e w5 hpost
  rw [HT1.out] at hpost
  obtain ⟨qa, qcap, ka, kcap, rfl, hQ, hK, hb5⟩ := post_net hpost
  have hA6 := hb5.trans (((Below.refl w5.heap.size w5).alloc (Nat.le_refl _) (.cells #[.int .i64 0, .int .i64 0, .slice qa N.pcs.length qcap, .slice ka N.jts.length kcap] 30)).mono hb5.size)
  have hA6' := (Below.refl w5.heap.size w5).alloc (Nat.le_refl _) (.cells #[.int .i64 0, .int .i64 0, .slice qa N.pcs.length qcap, .slice ka N.jts.length kcap] 30)
  have a0 := new_cell w5 #[.int .i64 0, .int .i64 0, .slice qa N.pcs.length qcap, .slice ka N.jts.length kcap] 30 0 _ rfl
  have a1 := new_cell w5 #[.int .i64 0, .int .i64 0, .slice qa N.pcs.length qcap, .slice ka N.jts.length kcap] 30 1 _ rfl
  have a2 := new_cell w5 #[.int .i64 0, .int .i64 0, .slice qa N.pcs.length qcap, .slice ka N.jts.length kcap] 30 2 _ rfl
  have a3 := new_cell w5 #[.int .i64 0, .int .i64 0, .slice qa N.pcs.length qcap, .slice ka N.jts.length kcap] 30 3 _ rfl
  have HP6 := hide (HP4.out.later hA6)
  have HJ6 := hide (HJ4.out.later hA6)
  have HQ6 := hide (hQ.later hA6')
  have HK6 := hide (hK.later hA6')
  have HBW6 := hide (HBW4.out.trans (hA6.mono HBW4.out.size))
  have n0 := cell_later' hA6 n0
  have n1 := cell_later' hA6 n1
  clear hpost hb5 hA6 hA6' hQ hK HP4 HJ4 HBW4
  go_upto_region 8 with fail
  generalize w5.alloc (.cells #[.int .i64 0, .int .i64 0, .slice qa N.pcs.length qcap, .slice ka N.jts.length kcap] 30) = w6 at *
  generalize w5.heap.size = ba at *
  go_wp2_with fail
  refine (looseT_any T z zc more _ HB'.out hml (by omega) (HZ.out.later HBW6.out)).mono ?_
  rintro e w7 ⟨o, rfl, hLI, hb7⟩
  have HTO := hide (HT2.out o hLI)
  have hoz := HT3.out o hLI
  have HP7 := hide (HP6.out.later hb7)
  have HJ7 := hide (HJ6.out.later hb7)
  have HQ7 := hide (HQ6.out.later hb7)
  have HK7 := hide (HK6.out.later hb7)
  have HBW7 := hide (HBW6.out.trans (hb7.mono HBW6.out.size))
  have n0 := cell_later' hb7 n0
  have n1 := cell_later' hb7 n1
  have a0 := cell_later' hb7 a0
  have a1 := cell_later' hb7 a1
  have a2 := cell_later' hb7 a2
  have a3 := cell_later' hb7 a3
  clear hLI hb7 HP6 HJ6 HQ6 HK6 HBW6
  go_wp2_with fail
  refine (implReadNet_str o _ hoz (HMX.out.later HBW7.out) (cell_later' HBW7.out HG.out)).mono ?_
  intro e w8 hpost
  rw [HTO.out] at hpost
  obtain ⟨ra, rcap, la, lcap, rfl, hR, hL, hb8⟩ := post_net hpost
  have hA9 := hb8.trans (((Below.refl w8.heap.size w8).alloc (Nat.le_refl _) (.cells #[.int .i64 0, .int .i64 0, .slice ra N.pcs.length rcap, .slice la N.jts.length lcap] 30)).mono hb8.size)
  have hA9' := (Below.refl w8.heap.size w8).alloc (Nat.le_refl _) (.cells #[.int .i64 0, .int .i64 0, .slice ra N.pcs.length rcap, .slice la N.jts.length lcap] 30)
  have b0 := new_cell w8 #[.int .i64 0, .int .i64 0, .slice ra N.pcs.length rcap, .slice la N.jts.length lcap] 30 0 _ rfl
  have b2 := new_cell w8 #[.int .i64 0, .int .i64 0, .slice ra N.pcs.length rcap, .slice la N.jts.length lcap] 30 2 _ rfl
  have b3 := new_cell w8 #[.int .i64 0, .int .i64 0, .slice ra N.pcs.length rcap, .slice la N.jts.length lcap] 30 3 _ rfl
  have HP9 := hide (HP7.out.later hA9)
  have HJ9 := hide (HJ7.out.later hA9)
  have HQ9 := hide (HQ7.out.later hA9)
  have HK9 := hide (HK7.out.later hA9)
  have HR9 := hide (hR.later hA9')
  have HL9 := hide (hL.later hA9')
  have HBW9 := hide (HBW7.out.trans (hA9.mono HBW7.out.size))
  have n0 := cell_later' hA9 n0
  have n1 := cell_later' hA9 n1
  have a0 := cell_later' hA9 a0
  have a1 := cell_later' hA9 a1
  have a2 := cell_later' hA9 a2
  have a3 := cell_later' hA9 a3
  clear hpost hb8 hA9 hA9' hR hL HP7 HJ7 HQ7 HK7 HBW7
  go_upto_region 9 with fail
  generalize w8.alloc (.cells #[.int .i64 0, .int .i64 0, .slice ra N.pcs.length rcap, .slice la N.jts.length lcap] 30) = w9 at *
  generalize w8.heap.size = bb at *
  go_wp2_with fail
  refine (wNet_same qa pa ka ja N qcap pcap kcap jcap _ (by omega) (by omega) (fun j hj => (HM9.out j hj).2) HQ9.out HP9.out HK9.out HJ9.out).mono ?_
  rintro e w10 ⟨rfl, hb10⟩
  have HP10 := hide (HP9.out.later hb10)
  have HJ10 := hide (HJ9.out.later hb10)
  have HR10 := hide (HR9.out.later hb10)
  have HL10 := hide (HL9.out.later hb10)
  have HBW10 := hide (HBW9.out.trans (hb10.mono HBW9.out.size))
  have n0 := cell_later' hb10 n0
  have n1 := cell_later' hb10 n1
  have b0 := cell_later' hb10 b0
  have b2 := cell_later' hb10 b2
  have b3 := cell_later' hb10 b3
  clear hb10 HP9 HJ9 HQ9 HK9 HR9 HL9 HBW9 a0 a1 a2 a3
  go_wp2_with fail
  refine (wNet_same ra pa la ja N rcap pcap lcap jcap _ (by omega) (by omega) (fun j hj => (HM9.out j hj).2) HR10.out HP10.out HL10.out HJ10.out).mono ?_
  rintro e w11 ⟨rfl, hb11⟩
  have HBW11 := hide (HBW10.out.trans (hb11.mono HBW10.out.size))
  clear hb11
  go_wp2_with fail
  go_ret
  exact ⟨rfl, HBW11.out⟩
end Go.Proofs.YtcodpnkfpmjleaaGreatDoor

/- What the cards of FnText and FnSpoilt lean on: the laid variables, a world that has them. Own work. -/
namespace Go.Proofs.YtcodpnkfpmjleaaGreatDoor
open Go.ChangeShapes Go.WideShapes Go.ChangeAt Go.RowKit

theorem own_knob : ownKnob Tryz.prog.godebug = none := by kernel_rfl
theorem et_named : Tryz.prog.globalNamed "errors.errorType" = some 0 := by kernel_rfl
theorem rt_type : (Tryz.prog.cutTypes.find? (·.1 == "internal/reflectlite.rtype")).map (·.2) = some 197 := by kernel_rfl
theorem rt_size : Tryz.prog.types.size = 303 := by kernel_rfl
theorem rt_row : ((List.range 303).filter fun t => Tryz.prog.rowNamed t [101, 114, 114, 111, 114]) = [77] := by kernel_rfl
theorem pow10_type : (Tryz.prog.globals[2]?).map (·.type) = some 261 := by kernel_rfl
theorem pow10_u : Tryz.prog.underlying 261 = some (.array 20 55) := Tryz.underlying261
theorem pow10_e : Tryz.prog.underlying 55 = some (.int .u64) := Tryz.underlying55
theorem pow10_ce : Tryz.prog.cellsOf 55 = 1 := by kernel_rfl
theorem pow10_ct : Tryz.prog.cellsOf 261 = 20 := by kernel_rfl

def twPlain : List (String × DataW Unit) := [("math/bits.deBruijn32tab", Rows.laid_math_bits_deBruijn32tab), ("math/bits.deBruijn64tab", Rows.laid_math_bits_deBruijn64tab), ("internal/strconv.uint64pow10", Rows.laid_internal_strconv_uint64pow10), ("unicode/utf8.acceptRanges", Rows.laid_unicode_utf8_acceptRanges), ("unicode/utf8.first", Rows.laid_unicode_utf8_first)]
theorem tw_parts {W : World} (h : laidMetH Tryz.prog Rows.fnTextRow.laid W) : laidMet Tryz.prog twPlain W ∧ handlesMet Tryz.prog [("errors.errorType", Rows.laid_errors_errorType)] W := h
/-- What the condition gives the walk: the handle of 'error'. -/
theorem handle_of_laid {W : World} (h : laidMetH Tryz.prog Rows.fnTextRow.laid W) : W.cell? ⟨0, 0, none⟩ = some (rtI 77) := by
  have h' := tw_parts h
  obtain ⟨name, u, ty, e1, e2, e3, e4, e5⟩ := h'.2 _ (List.mem_singleton.2 rfl)
  have en : name = [101, 114, 114, 111, 114] := (Option.some.inj e1).symm
  subst en
  obtain rfl := Option.some.inj (rt_type.symm.trans e2)
  have hm : ty ∈ (List.range 303).filter fun t => Tryz.prog.rowNamed t [101, 114, 114, 111, 114] := List.mem_filter.2 ⟨List.mem_range.2 (by rw [← rt_size]; exact e3), e4⟩
  rw [rt_row] at hm
  obtain rfl := List.mem_singleton.1 hm
  have hh : typeHandle Tryz.prog 77 = rtH 77 := by kernel_rfl
  rw [hh] at e5
  simpa using World.var?_cell et_named e5 0
/-- And the table of powers. -/
theorem tab_of_laid {W : World} (h : laidMetH Tryz.prog Rows.fnTextRow.laid W) : Tab W := by
  obtain ⟨ps, ⟨g0, t0, cs0, f0, p0, q0, _, _, _, _, ⟨g1, t1, cs1, f1, p1, q1, _, _, _, _, ⟨g2, t2, cs2, f2, p2, q2, hg2, ht2, hv2, hd2, _, _⟩, _⟩, _⟩, _, _⟩ := (tw_parts h).1
  obtain rfl := Option.some.inj (tab_named.symm.trans hg2)
  obtain rfl := Option.some.inj (pow10_type.symm.trans ht2)
  unfold Tab Lib.TabIs
  rw [hv2, ← Lib.cells_of_tab (zs := Lib.pow10Tab) pow10_u pow10_e pow10_ce pow10_ct hd2]
/-- MaxLen holds some int, by the world's shape. -/
theorem mx_of_shape {W : World} (h : W.ShapedOpen Tryz.prog) : MX W :=
  cell_of_shapedOpen_int (g := 1) (t := 3) (zero := #[.int .i64 0]) (k := .i64) h (of_decide_eq_true (by kernel_rfl)) (by kernel_rfl) rfl (by kernel_rfl) (by kernel_rfl) Tryz.underlying3

def twGreat : List String := ["math/bits.deBruijn32tab", "math/bits.deBruijn64tab", "internal/strconv.uint64pow10", "unicode/utf8.acceptRanges", "unicode/utf8.first"]
/-- A world that meets the condition. -/
noncomputable def twW0 (os : Os) : World :=
  let w0 := World.holding Tryz.prog os ⟨#[], #[], []⟩
  { w0 with heap := w0.heap.modify 0 fun
      | .cells _ t frozen => .cells #[rtI 77] t frozen
      | o => o }
noncomputable def twW (os : Os) : World := (twW0 os).layVars Tryz.prog twPlain
theorem twW_os (os : Os) : (twW os).os = os := World.layVars_os _ _ _
theorem tw_f : (Rows.fnTextRow.laid.filter fun x => x.2.handleName?.isNone) = twPlain := by kernel_rfl
theorem tw_e1 : (twPlain.filter fun x => twGreat.contains x.1) = twPlain := by kernel_rfl
theorem tw_e2 : (twPlain.filter fun x => !twGreat.contains x.1) = [] := by kernel_rfl
theorem tw_fits (os : Os) : (twW0 os).layFits Tryz.prog twPlain [] = true := by kernel_rfl
theorem tw_ifaces (os : Os) : (twW0 os).layIfaces Tryz.prog twPlain (twW os) = true := by kernel_rfl
theorem tw_met (os : Os) (args : Array Value) : laidMetH Tryz.prog Rows.fnTextRow.laid ((twW os).forCall (fun _ _ => 0) ⟨#[], args, []⟩).memory := by
  refine laidMetH_of_parts ?_ (by kernel_rfl)
  rw [tw_f]
  have h : laidMet Tryz.prog twPlain (twW os) := laidMet_layVars (w0 := twW0 os) twGreat [] (by rw [tw_e1]; rfl) (by rw [tw_e1]; exact tw_fits os) (by rw [tw_e1]; exact tw_ifaces os) (by rw [tw_e2]; exact LaidIn.none)
  exact h.of_heap (by simp [World.memory, World.forCall, Input.heap])
/-- The kit's wrap with a condition, the world's shape kept. -/
theorem returns_and_shaped {H : Type} {enc : TypeId × Value → H} {a : Assume} {C : Checked} {os : Os} {f : FuncId} {fn : Func} {s : ChangeSpec} {conds : List PathCond} {apart fresh handsOn again : Bool} {X : World → Array Value → Prop}
    (hX : ∀ (w w' : World) (args : Array Value), w.heap = w'.heap → X w args → X w' args)
    (own : ownKnob C.prog.godebug = none) (started : os.Started) (noInit : C.prog.inits.idxOf? f = none) (hfn : C.prog.funcs[f]? = some fn)
    (witness : ∃ (w : World) (tape : Tape) (i : Input), w.os = os ∧ (w.forCall tape i).Shaped C.prog ∧ i.vars = [] ∧ Input.okWide C.prog (w.forCall tape i) .any w.heap.size f i ∧
      ((s.pre enc C.prog fn conds apart (w.forCall tape i).memory i.args ∧ X (w.forCall tape i).memory i.args) ∧ sizedMet enc C.prog fn (OpenSpec.ofChange s) apart (w.forCall tape i).memory i.args) ∧ a.holds C.prog (lone (Frame.enter C.prog f i.args .normal) [] (w.forCall tape i)))
    (contract : ∀ (W : World) (base : Nat) (args : Array Value) (ds gs : List (DataW H)) (before : List MemPlace),
      (∀ (j : Nat) t v, fn.params[j]? = some t → args[j]? = some v → Value.okWide C.prog W .any base t v) →
      DataW.Whole enc C.prog fn.params.toList s.vars apart W args.toList ds gs before → X W args → W.ShapedOpen C.prog →
      Calls C.prog f args W fun e W' => ∃ v, e = .returned v ∧ s.post enc C.prog fn apart fresh handsOn again W args v W') :
    ReturnsInHanded a C os f .any (fun w args => (s.pre enc C.prog fn conds apart w args ∧ X w args) ∧ sizedMet enc C.prog fn (OpenSpec.ofChange s) apart w args) (s.post enc C.prog fn apart fresh handsOn again) := by
  refine returnsInHanded_of_calls own started noInit witness ?_
  intro w tape i _ hsh _ hok hpre _
  obtain ⟨_, _, _, fn', hfn', _, _, _, _, hval⟩ := hok
  have e : fn' = fn := Option.some.inj (hfn'.symm.trans hfn)
  subst e
  obtain ⟨⟨⟨ds, gs, before, hw, _⟩, hx⟩, _⟩ := hpre
  have hw' := DataW.Whole.of_heap (w' := w.forCall tape i) (by rfl) hw
  refine (contract (w.forCall tape i) w.heap.size i.args ds gs before hval hw' (hX _ _ _ (by rfl) hx) hsh).mono fun e W' ⟨v, he, hp⟩ => ?_
  subst he
  exact ChangeSpec.post_blind hp

end Go.Proofs.YtcodpnkfpmjleaaGreatDoor
