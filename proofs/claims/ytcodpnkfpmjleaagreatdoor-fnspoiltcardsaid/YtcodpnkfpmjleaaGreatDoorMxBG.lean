/- The walk of FnSpoilt. Own work. -/
import Derived.Test.YtcodpnkfpmjleaaGreatDoorMxBE
import Derived.Test.YtcodpnkfpmjleaaGreatDoorMxBF
import Derived.Test.YtcodpnkfpmjleaaGreatDoorMxAM
import Derived.Test.YtcodpnkfpmjleaaGreatDoorMxBB
import Derived.Deep.RegionHeld3
import Derived.Deep.DeepCutAuto
import Derived.Test.YtcodpnkfpmjleaaGreatDoorMxAT
import Derived.Test.YtcodpnkfpmjleaaGreatDoorMxAF
import Derived.Test.YtcodpnkfpmjleaaGreatDoorRows
import Derived.Test.YtcodpnkfpmjleaaGreatDoorCards
import Derived.Test.YtcodpnkfpmjleaaGreatDoorTie
import Derived.ProofKit
import Derived.OpenShut
import Derived.ChangeOld
import Derived.Stop.Joined
import Derived.SevenTiedAt
namespace Go.Proofs.YtcodpnkfpmjleaaGreatDoor
open Go.RowKit
set_option maxHeartbeats 8000000
set_option maxRecDepth 100000

/-- How great what a text tells is. -/
theorem readG_sz (N : Nt) (i : Nat) (ls : List Bl) (h : NSz N i) : NSz (readG N i ls).2.2 (i + ls.length) := by
  induction ls generalizing N i with
  | nil =>
    rw [readG]
    unfold wholeR
    split
    · exact ⟨by simp, by simp, by simp, by simp⟩
    · split
      · exact ⟨by simp, by simp, by simp, by simp⟩
      · exact h
  | cons l ls ih =>
    rw [readG]
    split
    · exact ⟨by simp, by simp, by simp, by simp⟩
    · have := ih _ (i + 1) (h.line (wordsL l))
      rw [show i + (l :: ls).length = i + 1 + ls.length by simp; omega]
      exact this
theorem told_sz (t : ByteArray) : NSz (toldP t).2.2 65537 := by
  unfold toldP
  split
  · exact ⟨by simp, by simp, by simp, by simp⟩
  · rename_i hs
    have h := readG_sz ⟨[], []⟩ 0 (linesL (bs t)) ⟨by simp, by simp, by simp, by simp⟩
    have hb := (linesG_bd (bs t) []).1
    have hl : (bs t).length ≤ 65536 := by rw [bs_len]; omega
    have hle : 0 + (linesL (bs t)).length ≤ 65537 := by unfold linesL; omega
    exact ⟨Nat.le_trans h.pcs hle, Nat.le_trans h.jts hle, h.pn, h.jn⟩
theorem wRes_bad {N : Nt} (h : netOk N ≠ (0, 0)) : wRes N = ⟨#[]⟩ := by unfold wRes; rw [if_neg h]
/-- The track's box and the fault's, and what has come since. -/
abbrev SpF (W wx : World) (bn bf : Nat) (v0 v1 : Value) (x y : Int) : Prop :=
  (wx.cell? ⟨bn, 0, none⟩ = some v0 ∧ wx.cell? ⟨bn, 1, none⟩ = some v1 ∧ wx.cell? ⟨bf, 0, none⟩ = some (.int .i64 x) ∧ wx.cell? ⟨bf, 1, none⟩ = some (.int .i64 y)) ∧ Hid (Below W.heap.size W wx)
theorem keepSpF {W wx w2 : World} {bn bf : Nat} {v0 v1 : Value} {x y : Int} (hb : Below wx.heap.size wx w2) (h : SpF W wx bn bf v0 v1 x y) : SpF W w2 bn bf v0 v1 x y :=
  ⟨⟨cell_later' hb h.1.1, cell_later' hb h.1.2.1, cell_later' hb h.1.2.2.1, cell_later' hb h.1.2.2.2⟩, h.2.out.trans (hb.mono h.2.out.size)⟩
/-- The track's box and the spot's. -/
abbrev SpG (W wx : World) (bn bs : Nat) (v0 v1 : Value) : Prop :=
  (wx.cell? ⟨bn, 0, none⟩ = some v0 ∧ wx.cell? ⟨bn, 1, none⟩ = some v1 ∧ wx.cell? ⟨bs, 0, none⟩ = some (.int .i64 0) ∧ wx.cell? ⟨bs, 1, none⟩ = some (.int .i64 0) ∧ wx.cell? ⟨bs, 2, none⟩ = some (.int .i64 1)) ∧ Hid (Below W.heap.size W wx)
theorem keepSpG {W wx w2 : World} {bn bs : Nat} {v0 v1 : Value} (hb : Below wx.heap.size wx w2) (h : SpG W wx bn bs v0 v1) : SpG W w2 bn bs v0 v1 :=
  ⟨⟨cell_later' hb h.1.1, cell_later' hb h.1.2.1, cell_later' hb h.1.2.2.1, cell_later' hb h.1.2.2.2.1, cell_later' hb h.1.2.2.2.2⟩, h.2.out.trans (hb.mono h.2.out.size)⟩
theorem fieldOk (w : World) : (Instr.field 49 (.agg #[.bool false, .int .i64 0, .slice none 0 0, .slice none 0 0]) 0).run Tryz.prog w = .ok (.bool false) w := by kernel_rfl
theorem heldP {p : Prop} {w1 w' : World} (h : p ∧ Hid (Below w1.heap.size w1 w')) : Below w1.heap.size w1 w' := h.2.out

theorem fnSpoilt_walk (a : Option Addr) (cap : Nat) (code : List Int) (w : World) (hB : Bys code) (hn : code.length ≤ maxLen) (hx : BytesAt w a code) (hT : Tab w) (hM : MX w) (hg : w.cell? ⟨0, 0, none⟩ = some (rtI 77)) :
    Calls Tryz.prog 4 #[.slice a code.length cap] w fun e w' => e = .returned (.bool true) ∧ Below w.heap.size w w' := by
  have HB := hide hB
  have HX := hide hx
  have HTB := hide hT
  have HMX := hide hM
  have HG := hide hg
  have hcm : (code.length : Int) ≤ 9223372036854775807 := by unfold maxLen at hn; omega
  clear hB hx hn hT hM hg
  by_cases hc : (1048576 : Int) < (code.length : Int)
  · have hc1 : decide ((1048576 : Int) < (code.length : Int)) = true := by rw [decide_eq_true_iff]; exact hc
    go_enter Tryz.func4, Tryz.ntmps4
    go_wp2_with fail
    go_ret
    exact ⟨rfl, Below.refl _ _⟩
  have hc1 : decide ((1048576 : Int) < (code.length : Int)) = false := by rw [decide_eq_false_iff_not]; exact hc
  have hcl : code.length ≤ 1048576 := by omega
  clear hc hcm
  go_enter Tryz.func4, Tryz.ntmps4
  go_wp2_with fail
  refine (drawReadNet_any a cap code _ HB.out hcl HX.out).mono ?_
  rintro e w1 ⟨t, rfl, hts, hb1⟩
  have HBW1 := hide hb1
  clear hb1 hc1
  go_wp2_with fail
  refine (implReadNet_str t _ hts (HMX.out.later HBW1.out) (cell_later' HBW1.out HG.out)).mono ?_
  intro e w2 hpost
  have HNS := hide (told_sz t)
  have HSR := hide (fun (W : World) => specReadNet_any t W hts)
  obtain ⟨c, l, N, hcN⟩ : ∃ c l N, toldP t = (c, l, N) := ⟨_, _, _, rfl⟩
  rw [hcN] at hpost HNS HSR
  obtain ⟨qa, qcap, ka, kcap, rfl, hQ, hK, hb2⟩ := post_net hpost
  have hnp : N.pcs.length ≤ 65537 := HNS.out.pcs
  have hnj : N.jts.length ≤ 65537 := HNS.out.jts
  have HJE := hide (show ∀ j ∈ N.jts, j.ends.length ≤ 1048576 from fun j hj => Nat.le_trans (HNS.out.jn j hj).2 (by decide))
  have hA3 := (Below.refl w2.heap.size w2).alloc (Nat.le_refl _) (.cells #[.int .i64 c, .int .i64 l, .slice qa N.pcs.length qcap, .slice ka N.jts.length kcap] 30)
  have a0 := new_cell w2 #[.int .i64 c, .int .i64 l, .slice qa N.pcs.length qcap, .slice ka N.jts.length kcap] 30 0 _ rfl
  have a1 := new_cell w2 #[.int .i64 c, .int .i64 l, .slice qa N.pcs.length qcap, .slice ka N.jts.length kcap] 30 1 _ rfl
  have a2 := new_cell w2 #[.int .i64 c, .int .i64 l, .slice qa N.pcs.length qcap, .slice ka N.jts.length kcap] 30 2 _ rfl
  have a3 := new_cell w2 #[.int .i64 c, .int .i64 l, .slice qa N.pcs.length qcap, .slice ka N.jts.length kcap] 30 3 _ rfl
  have HQ3 := hide (hQ.later hA3)
  have HK3 := hide (hK.later hA3)
  have HBW3 := hide ((HBW1.out.trans (hb2.mono HBW1.out.size)).trans (hA3.mono (HBW1.out.trans (hb2.mono HBW1.out.size)).size))
  clear hpost hQ hK hb2 hA3 hcN HNS HBW1
  go_wp2_with fail
  generalize w2.alloc (.cells #[.int .i64 c, .int .i64 l, .slice qa N.pcs.length qcap, .slice ka N.jts.length kcap] 30) = w3 at *
  generalize w2.heap.size = ba at *
  refine (HSR.out _).mono ?_
  intro e w4 hpost
  obtain ⟨ra, rcap, la, lcap, rfl, hR, hL, hb4⟩ := post_net hpost
  have hA5 := (Below.refl w4.heap.size w4).alloc (Nat.le_refl _) (.cells #[.int .i64 c, .int .i64 l, .slice ra N.pcs.length rcap, .slice la N.jts.length lcap] 30)
  have b0 := new_cell w4 #[.int .i64 c, .int .i64 l, .slice ra N.pcs.length rcap, .slice la N.jts.length lcap] 30 0 _ rfl
  have b1 := new_cell w4 #[.int .i64 c, .int .i64 l, .slice ra N.pcs.length rcap, .slice la N.jts.length lcap] 30 1 _ rfl
  have b2 := new_cell w4 #[.int .i64 c, .int .i64 l, .slice ra N.pcs.length rcap, .slice la N.jts.length lcap] 30 2 _ rfl
  have b3 := new_cell w4 #[.int .i64 c, .int .i64 l, .slice ra N.pcs.length rcap, .slice la N.jts.length lcap] 30 3 _ rfl
  have hb5 := hb4.trans (hA5.mono hb4.size)
  have a0 := cell_later' hb5 a0
  have a1 := cell_later' hb5 a1
  have a2 := cell_later' hb5 a2
  have a3 := cell_later' hb5 a3
  have HQ5 := hide (HQ3.out.later hb5)
  have HK5 := hide (HK3.out.later hb5)
  have HR5 := hide (hR.later hA5)
  have HL5 := hide (hL.later hA5)
  have HBW5 := hide (HBW3.out.trans (hb5.mono HBW3.out.size))
  clear hpost hR hL hb4 hA5 hb5 HQ3 HK3 HBW3 HSR
  go_upto_region 6 with fail
  generalize w4.alloc (.cells #[.int .i64 c, .int .i64 l, .slice ra N.pcs.length rcap, .slice la N.jts.length lcap] 30) = w5 at *
  generalize w4.heap.size = bb at *
  go_wp2_with fail
  refine (wNet_same qa ra ka la N qcap rcap kcap lcap _ (by omega) (by omega) HJE.out HQ5.out HR5.out HK5.out HL5.out).mono ?_
  rintro e w6 ⟨rfl, hb6⟩
  have HBW6 := hide (HBW5.out.trans (hb6.mono HBW5.out.size))
  clear hb6 HQ5 HK5 HR5 HL5 HBW5 HJE a0 a1 a2 a3 b0 b1 b2 b3
  go_wp2_with fail
  refine (drawNetOk_any a cap code _ HB.out hcl (HX.out.later HBW6.out)).mono ?_
  rintro e w7 ⟨pa, ja, pcap, jcap, M, rfl, hP, hJ, hSm, hb7⟩
  have hA8 := (Below.refl w7.heap.size w7).alloc (Nat.le_refl _) (.cells #[.slice pa M.pcs.length pcap, .slice ja M.jts.length jcap] 26)
  have n0 := new_cell w7 #[.slice pa M.pcs.length pcap, .slice ja M.jts.length jcap] 26 0 _ rfl
  have n1 := new_cell w7 #[.slice pa M.pcs.length pcap, .slice ja M.jts.length jcap] 26 1 _ rfl
  have HP8 := hide (hP.later hA8)
  have HJ8 := hide (hJ.later hA8)
  have hb8 := hb7.trans (hA8.mono hb7.size)
  have HBW8 := hide (HBW6.out.trans (hb8.mono HBW6.out.size))
  have hmp : M.pcs.length ≤ 1048576 := by have := hSm.pcs; omega
  have hmj : M.jts.length ≤ 1048576 := by have := hSm.jts; omega
  have HS9 := hide (show ∀ p ∈ M.pcs, p.name.size ≤ 1048576 from fun p hp => Nat.le_trans (hSm.pn p hp) (by decide))
  have HM9 := hide (show ∀ j ∈ M.jts, j.name.size ≤ 1048576 ∧ j.ends.length ≤ 1048576 from fun j hj => ⟨Nat.le_trans (hSm.jn j hj).1 (by decide), Nat.le_trans (hSm.jn j hj).2 (by decide)⟩)
  clear hP hJ hSm hb7 hA8 hb8 HBW6 HX HB
  go_wp2_with fail
  generalize w7.alloc (.cells #[.slice pa M.pcs.length pcap, .slice ja M.jts.length jcap] 26) = w8 at *
  generalize w7.heap.size = bn at *
  refine (implNetOk_any pa ja M pcap jcap _ hmp HS9.out hmj HM9.out HP8.out HJ8.out).mono ?_
  obtain ⟨x, y, hxy⟩ : ∃ x y, netOk M = (x, y) := ⟨_, _, rfl⟩
  have HXY := hide hxy
  rw [hxy]
  rintro e w9 ⟨rfl, hb9⟩
  have hA10 := (Below.refl w9.heap.size w9).alloc (Nat.le_refl _) (.cells #[.int .i64 x, .int .i64 y] 37)
  have f0 := new_cell w9 #[.int .i64 x, .int .i64 y] 37 0 _ rfl
  have f1 := new_cell w9 #[.int .i64 x, .int .i64 y] 37 1 _ rfl
  have hb10 := hb9.trans (hA10.mono hb9.size)
  have n0 := cell_later' hb10 n0
  have n1 := cell_later' hb10 n1
  have HP10 := hide (HP8.out.later hb10)
  have HJ10 := hide (HJ8.out.later hb10)
  have HBW10 := hide (HBW8.out.trans (hb10.mono HBW8.out.size))
  clear hb9 hA10 hb10 HP8 HJ8 HBW8 hxy
  go_upto_region 10 with fail
  generalize w9.alloc (.cells #[.int .i64 x, .int .i64 y] 37) = w10 at *
  generalize w9.heap.size = bf at *
  have h11 : Below w10.heap.size w10 w10.drew := (Below.refl _ _).drew
  have HSF := hide (show SpF w10 w10.drew bn bf (.slice pa M.pcs.length pcap) (.slice ja M.jts.length jcap) x y from ⟨⟨cell_later' h11 n0, cell_later' h11 n1, cell_later' h11 f0, cell_later' h11 f1⟩, h11⟩)
  have HPS := hide (fun (W : World) (h : Below w10.heap.size w10 W) => HP10.out.later h)
  have HJS := hide (fun (W : World) (h : Below w10.heap.size w10 W) => HJ10.out.later h)
  go_cut [45] from 42 (fun s45 wx => s45 = .bool false ∧ Hid (SpF w10 wx bn bf (.slice pa M.pcs.length pcap) (.slice ja M.jts.length jcap) x y))
  case first =>
    go_region_held3 (fun wx => SpF w10 wx bn bf (.slice pa M.pcs.length pcap) (.slice ja M.jts.length jcap) x y)
      (first
        | (with_reducible exact HSF.out)
        | (exact keepSpF (by assumption) (by assumption)))
      (first
        | (go_at_call 15; refine (specNetOk_any pa ja M pcap jcap _ hmp HS9.out hmj HM9.out (HPS.out _ (heldP (by assumption))) (HJS.out _ (heldP (by assumption)))).mono ?_; rw [HXY.out]; rintro e wU ⟨rfl, hbU⟩))
    all_goals
      go_wp2_with fail
      go_meet
      exact ⟨rfl, keepSpF hbU (by assumption)⟩
  case rest =>
    obtain ⟨rfl, HSF2⟩ := hcut
    rename World => w11
    have HB11 := hide (HBW10.out.trans (HSF2.out.2.out.mono HBW10.out.size))
    have HP11 := hide (HP10.out.later HSF2.out.2.out)
    have HJ11 := hide (HJ10.out.later HSF2.out.2.out)
    obtain ⟨⟨n0, n1, f0, f1⟩, _⟩ := HSF2.out
    clear HSF HPS HJS HSF2 HP10 HJ10 HBW10 h11
    by_cases hx0 : x = 0
    · have gx : (x == 0) = true := by rw [beq_iff_eq]; exact hx0
      clear hx0
      go_upto_region 13 with fail
      have h11 : Below w11.heap.size w11 w11.drew := (Below.refl _ _).drew
      have HSF := hide (show SpF w11 w11.drew bn bf (.slice pa M.pcs.length pcap) (.slice ja M.jts.length jcap) x y from ⟨⟨cell_later' h11 n0, cell_later' h11 n1, cell_later' h11 f0, cell_later' h11 f1⟩, h11⟩)
      have HPS := hide (fun (W : World) (h : Below w11.heap.size w11 W) => HP11.out.later h)
      have HJS := hide (fun (W : World) (h : Below w11.heap.size w11 W) => HJ11.out.later h)
      have HTS := hide (fun (W : World) (h : Below w11.heap.size w11 W) => HTB.out.later (HB11.out.trans (h.mono HB11.out.size)))
      clear n0 n1 f0 f1 h11
      go_region_held3 (fun wx => SpF w11 wx bn bf (.slice pa M.pcs.length pcap) (.slice ja M.jts.length jcap) x y)
        (first
          | (with_reducible exact HSF.out)
          | (exact keepSpF (by assumption) (by assumption)))
        (first
          | (go_at_call 6; refine (implWriteNet_res pa ja M pcap jcap _ hmp HS9.out hmj HM9.out (HPS.out _ (heldP (by assumption))) (HJS.out _ (heldP (by assumption))) (HTS.out _ (heldP (by assumption)))).mono ?_; rintro e wU ⟨rfl, hbU⟩)
          | (go_at_call 7; refine (specWriteNet_res pa ja M pcap jcap _ hmp HS9.out hmj HM9.out (HPS.out _ (heldP (by assumption))) (HJS.out _ (heldP (by assumption)))).mono ?_; rintro e wV ⟨rfl, hbV⟩))
      all_goals
        rename_i hH
        have HBX := hide (HB11.out.trans (hH.2.out.mono HB11.out.size))
        clear hH
        go_wp2_with fail
        go_ret
        exact ⟨rfl, HBX.out⟩
    · have HBAD := hide (show netOk M ≠ (0, 0) from fun h => hx0 (by have h2 := HXY.out; rw [h] at h2; exact (Prod.mk.inj h2).1.symm))
      have gx : (x == 0) = false := by rw [beq_eq_false_iff_ne]; exact hx0
      have hA12 := (Below.refl w11.heap.size w11).alloc (Nat.le_refl _) (.cells #[.int .i64 0, .int .i64 0, .int .i64 1] 40)
      have s0 := new_cell w11 #[.int .i64 0, .int .i64 0, .int .i64 1] 40 0 _ rfl
      have s1 := new_cell w11 #[.int .i64 0, .int .i64 0, .int .i64 1] 40 1 _ rfl
      have s2 := new_cell w11 #[.int .i64 0, .int .i64 0, .int .i64 1] 40 2 _ rfl
      clear hx0
      go_upto_region 15 with fail
      have n0 := cell_later' hA12 n0
      have n1 := cell_later' hA12 n1
      have HP12 := hide (HP11.out.later hA12)
      have HJ12 := hide (HJ11.out.later hA12)
      have HB12 := hide (HB11.out.trans (hA12.mono HB11.out.size))
      clear hA12 f0 f1
      generalize w11.alloc (.cells #[.int .i64 0, .int .i64 0, .int .i64 1] 40) = w12 at *
      generalize w11.heap.size = bs at *
      have h12 : Below w12.heap.size w12 w12.drew := (Below.refl _ _).drew
      have HSG := hide (show SpG w12 w12.drew bn bs (.slice pa M.pcs.length pcap) (.slice ja M.jts.length jcap) from ⟨⟨cell_later' h12 n0, cell_later' h12 n1, cell_later' h12 s0, cell_later' h12 s1, cell_later' h12 s2⟩, h12⟩)
      have HPS := hide (fun (W : World) (h : Below w12.heap.size w12 W) => HP12.out.later h)
      have HJS := hide (fun (W : World) (h : Below w12.heap.size w12 W) => HJ12.out.later h)
      have HTS := hide (fun (W : World) (h : Below w12.heap.size w12 W) => HTB.out.later (HB12.out.trans (h.mono HB12.out.size)))
      have HWB := hide (wRes_bad HBAD.out)
      have HSB := hide (spotOk_bad M HBAD.out 0 0 1)
      have HWF := hide (show Wf3 0 0 1 from ⟨rfl, rfl, rfl⟩)
      have hfo := fieldOk
      have hmk := run_make_rows (P := Tryz.prog) 45 3 _ _ _ Tryz.underlying45 info_Int M.jts.length (by omega) (by omega)
      clear n0 n1 s0 s1 s2 h12
      go_region_held3 (fun wx => SpG w12 wx bn bs (.slice pa M.pcs.length pcap) (.slice ja M.jts.length jcap))
        (first
          | (with_reducible exact HSG.out)
          | (with_reducible exact HGVa.out _)
          | (exact keepSpG (by assumption) (by assumption)))
        (first
          | (go_at_call 6; refine (implWriteNet_res pa ja M pcap jcap _ hmp HS9.out hmj HM9.out (HPS.out _ (heldP (by assumption))) (HJS.out _ (heldP (by assumption))) (HTS.out _ (heldP (by assumption)))).mono ?_; rw [HWB.out]; rintro e wU ⟨rfl, hbU⟩)
          | (go_at_call 16; refine (implSpotOk_any pa ja M pcap jcap 0 0 1 _ HWF.out hmp HS9.out hmj HM9.out (HPS.out _ (heldP (by assumption))) (HJS.out _ (heldP (by assumption)))).mono ?_; rw [HSB.out]; rintro e wV ⟨rfl, hbV⟩; have HGV : Hid (SpG w12 wV bn bs (.slice pa M.pcs.length pcap) (.slice ja M.jts.length jcap)) := keepSpG hbV (by assumption); have HGVa := hide (fun o => keepSpG ((Below.refl wV.heap.size wV).alloc (Nat.le_refl _) o) HGV.out))
          | (go_at_call 17; refine (implDrive_bad pa ja M pcap jcap _ _ _ _ 0 0 1 5 HWF.out HBAD.out hmp HS9.out hmj HM9.out (HPS.out _ (heldP (by assumption))) (HJS.out _ (heldP (by assumption)))).mono ?_; rintro e wD ⟨rfl, hbD⟩)
          | (go_at_call 18; refine (implShortest_bad pa ja M pcap jcap _ 0 0 1 0 0 1 HWF.out HBAD.out hmp HS9.out hmj HM9.out (HPS.out _ (heldP (by assumption))) (HJS.out _ (heldP (by assumption)))).mono ?_; rintro e wE ⟨rfl, hbE⟩)
          | (go_at_call 19; refine (implLoops_bad pa ja M pcap jcap _ HBAD.out hmp HS9.out hmj HM9.out (HPS.out _ (heldP (by assumption))) (HJS.out _ (heldP (by assumption)))).mono ?_; rintro e wL ⟨rfl, hbL⟩))
      all_goals
        rename_i hH
        have HBX := hide (HB12.out.trans (hH.2.out.mono HB12.out.size))
        clear hH
        go_wp2_with fail
        go_ret
        exact ⟨rfl, HBX.out⟩
end Go.Proofs.YtcodpnkfpmjleaaGreatDoor

/- Bytes that came in. Own work. -/
namespace Go.Proofs.YtcodpnkfpmjleaaGreatDoor
open Go.RowKit Go.Joins Go.Deep Go.WideShapes Go.ChangeShapes
set_option maxRecDepth 100000

theorem cellsU8 : Tryz.prog.cellsOf 5 = 1 := by kernel_rfl
theorem slice_cells3 {P : Program} {w : World} {r : Reach} {b0 : Nat} {t e : TypeId} {v : Value} (ht : P.underlying t = some (.slice e)) (hv : Value.okWide P w r b0 t v) : v.cells = #[v] := by
  obtain ⟨a, len, cap, rfl⟩ := okWide_slice ht hv
  rfl

theorem bytes_of_trod {H : Type} {enc : TypeId × Value → H} {w : World} {spare : Nat → Bool} {held : Bool} {v : Value} {d : DataW H} {p : List MemPlace} (hone : v.cells = #[v]) (h : DataW.Trod enc Tryz.prog w 0 spare held 22 v d p) :
    ∃ (a : Option Addr) (cap : Nat) (xs : List Int), v = .slice a xs.length cap ∧ BytesAt w a xs ∧ xs.length ≤ maxLen ∧ Bys xs := by
  obtain ⟨fuel, hm⟩ := h
  rcases open_slice Tryz.underlying22 hm with ⟨hv, _⟩ | ⟨a, len, cap, m, n, D, Pl, hv, _, hlc, hcm, hm', _, hall⟩
  · rw [hone] at hv
    have : v = .slice none 0 0 := by simpa using hv
    subst this
    exact ⟨none, 0, [], rfl, fun k hk => by simp at hk, by simp, fun x hx => by simp at hx⟩
  · rw [hone] at hv
    have : v = .slice (some a) len cap := by simpa using hv
    subst this
    have hlm : len ≤ m := by rw [hm']; split <;> omega
    have hex : ∀ i, i < len → ∃ x : Int, w.cell? ((a.add (i * 1)).add 0) = some (.int .u8 x) ∧ (0 ≤ x ∧ x < 256) := by
      intro i hi
      obtain ⟨cs', hc, ht⟩ := hall i (by omega)
      rw [cellsU8] at hc
      obtain ⟨_, hlen, hcell⟩ := World.cells?_some hc
      obtain ⟨x0, e0, _, w0⟩ := DataW.trod_int Tryz.underlying5 ht
      subst e0
      refine ⟨x0, hcell 0 (by omega), ?_⟩
      simp only [Lit.wf, IntKind.min, IntKind.max, IntKind.bits, IntKind.signed, Bool.and_eq_true] at w0
      simp at w0
      omega
    obtain ⟨xs, hl, hxs⟩ := list_of len hex
    refine ⟨some a, cap, xs, by rw [hl], ?_, by omega, ?_⟩
    · intro k hk
      obtain ⟨b, off, spot⟩ := a
      have h00 := (hxs 0 (by omega)).1
      have hspot : spot = none := by simpa [Addr.add] using World.cell?_spot h00
      subst hspot
      have hk2 := (hxs k hk).1
      simp only [add_plain, Nat.mul_one, Nat.add_zero] at hk2
      exact ⟨b, off, rfl, hk2⟩
    · intro x hx
      obtain ⟨k, hk, rfl⟩ := List.getElem_of_mem hx
      exact (hxs k hk).2
end Go.Proofs.YtcodpnkfpmjleaaGreatDoor

/- FnSpoilt, for every input; its tied card. Own work. -/
namespace Go.Proofs.YtcodpnkfpmjleaaGreatDoor
open Go.ChangeShapes Go.WideShapes Go.ChangeAt Go.RowKit Go.Joins

theorem sp_laid : Rows.fnSpoiltRow.laid = Rows.fnTextRow.laid := rfl
set_option maxRecDepth 100000 in
theorem fnSpoilt_lifted (os : Os) (started : os.Started) (H : Type) (enc : TypeId × Value → H) :
    ReturnsInHanded {} Tryz.checked os 4 .any (fun w args => (Rows.fnSpoiltSpec.pre enc Tryz.prog Tryz.f4 [] false w args ∧ laidMetH Tryz.prog Rows.fnSpoiltRow.laid w) ∧ sizedMet enc Tryz.prog Tryz.f4 (OpenSpec.ofChange Rows.fnSpoiltSpec) false w args)
      (Rows.fnSpoiltSpec.post enc Tryz.prog Tryz.f4 false true false false) := by
  refine returns_and_shaped (C := Tryz.checked) (X := fun w _ => laidMetH Tryz.prog Rows.fnSpoiltRow.laid w) (fun _ _ _ hh h => h.of_heap hh) own_knob started (by kernel_rfl) Tryz.func4
    (ChangeSpec.witness_shaped (enc := enc) (C := Tryz.checked) (os := os) (X := fun w _ => laidMetH Tryz.prog Rows.fnSpoiltRow.laid w) false (twW os) #[.slice none 0 0] 8 (twW_os os) (World.shaped_of_ZipB (by kernel_rfl) (by kernel_rfl)) (by kernel_rfl) (by kernel_rfl) (by kernel_rfl) (by rw [sp_laid]; exact tw_met os _)) ?_
  intro W base args ds gs before hval0 hW hL hsh
  have hval : ∀ (j : Nat) t v, Tryz.f4.params[j]? = some t → args[j]? = some v → Value.okWide Tryz.prog W .any base t v := hval0
  have hW' := hW
  obtain ⟨p, q, hA0, hV, rfl, hfz, hnd⟩ := hW
  have hA : DataW.TrodAll enc Tryz.prog W 0 (fun _ => true) true Tryz.f4.params.toList args.toList ds p := hA0
  rw [Tryz.params4] at hA hval
  obtain ⟨v0, vs0, d0, ds0, p0, q0, hargs, rfl, rfl, h0, r0⟩ := trodAll_cons hA
  obtain ⟨rfl, rfl, rfl⟩ := trodAll_nil r0
  obtain rfl : args = #[v0] := by cases args; simp_all
  obtain ⟨rfl, rfl⟩ := trodVars_none hV
  have lt0 : ∀ x ∈ p0, x.block < W.heap.size := by obtain ⟨m, hm⟩ := h0; exact DataW.trod_lt m _ _ _ hm
  obtain ⟨a, cap, code, rfl, hx, hn, hB⟩ := bytes_of_trod (slice_cells3 Tryz.underlying22 (hval 0 22 v0 rfl rfl)) h0
  clear hA0 hval0
  rw [sp_laid] at hL
  refine (fnSpoilt_walk a cap code W hB hn hx (tab_of_laid hL) (mx_of_shape hsh) (handle_of_laid hL)).mono fun e W' ⟨he, bel⟩ => ?_
  subst he
  exact ⟨_, rfl, _, _, _, [], _, [], hW', trodAll_mk1 (shut_bool Tryz.underlying4 _), (trodAll_cons_mk (Below.trod Tryz.laidOut (by kernel_rfl) (of_decide_eq_true (by kernel_rfl)) h0 bel lt0) trodAll_mk0), rfl, bel.frame _, fun h => by cases h⟩

theorem fnSpoilt_holds : Rows.FnSpoiltSaid :=
  OpenClaim.holds_of_wide 4 Tryz.f4 rfl rfl rfl rfl rfl rfl rfl ⟨rfl, rfl, rfl, rfl, rfl⟩ rfl rfl rfl rfl rfl (by kernel_rfl) Tryz.func4 (by kernel_rfl)
    (of_decide_eq_true (by kernel_rfl)) (by unfold Func.isWrapper; first | (rw [if_pos (by decide +kernel)]; kernel_rfl) | (rw [if_neg (by decide +kernel)]; exact ⟨rfl, rfl⟩))
    (fun os started H enc _ => fnSpoilt_lifted os started H enc)

theorem fnSpoilt_card : Rows.FnSpoiltCardSaid :=
  Claim7.holds_tied_plain_at .later [] [.data, .data, .data, .data, .handle, .pinned] true Rows.fnSpoiltCard.stood.harness Rows.fnSpoiltCard.stood.looks
    fnSpoilt_holds (fun _ h => by cases h) (by kernel_rfl) (fun _ h => by cases h) fnSpoilt_row_tie rfl ⟨rfl, rfl⟩ (by kernel_rfl) rfl
    (fun f fn hf hfn => by
      obtain rfl : f = 4 := Option.some.inj ((show Tryz.prog.funcNamed "loop.example/ballast/laws.FnSpoilt" = some 4 by kernel_rfl).symm.trans hf) |>.symm
      obtain rfl : fn = Tryz.f4 := (Option.some.inj (Tryz.func4.symm.trans hfn)).symm
      exact ⟨by kernel_rfl, fun j t ht => by
        rw [Tryz.params4] at ht
        have hm : t ∈ [22] := by simpa using Array.mem_of_getElem? ht
        have hall : ([22].all fun u => !Tryz.prog.wantsStandIn u) = true := by kernel_rfl
        exact (show Tryz.prog.wantsStandIn t = false by simpa using List.all_eq_true.1 hall t hm)⟩)
    (by kernel_rfl)
end Go.Proofs.YtcodpnkfpmjleaaGreatDoor
