import Derived.Test.YtplnppdlabpodaaJaC
import Derived.Test.YtplnppdlabpodaaLwA
import Derived.Deep.RegionWith
import Derived.Deep.DeepCutAuto
namespace Go.Proofs.Ytplnppdlabpodaa
open Go.RowKit
set_option maxHeartbeats 2000000

theorem chain {a b c : World} (h : Below a.heap.size a b) (k : Below b.heap.size b c) : Below a.heap.size a c := h.trans (k.mono h.size)

theorem fnJointAt_walk (a a' : Option Addr) (N : Nt) (cap cap' : Nat) (p s : Int) (w : World) (hwf : Wf2 (p, s)) (hp : PcsAt w a N.pcs) (hj : JtsAt w a' N.jts) (hn : N.pcs.length ≤ maxLen ∧ ∀ p ∈ N.pcs, p.name.size ≤ maxLen) (hl : N.jts.length ≤ maxLen ∧ ∀ j ∈ N.jts, j.name.size ≤ maxLen ∧ j.ends.length ≤ maxLen) :
    Calls Try.prog 4 #[.agg #[.slice a N.pcs.length cap, .slice a' N.jts.length cap'], .agg #[.int .i64 p, .int .i64 s]] w fun e w' =>
    e = .returned (.bool true) ∧ Below w.heap.size w w' := by
  have HP := hide hp
  have HJ := hide hj
  have HN := hide hn
  have HL := hide hl
  have HWF := hide hwf
  clear hp hj hn hl hwf
  go_enter Try.func4, Try.ntmps4
  go_wp2_with fail
  have hbW : Below w.heap.size w ((w.alloc (.cells #[.slice a N.pcs.length cap, .slice a' N.jts.length cap'] 25)).alloc (.cells #[.int .i64 p, .int .i64 s] 39)) := ((Below.refl _ _).alloc (Nat.le_refl _) _).alloc (by simp) _
  refine (szNet_any a a' N cap cap' 1048576 _ HN.out.1 (HP.out.later hbW) HN.out.2 HL.out.1 (HJ.out.later hbW) HL.out.2 (by omega) (by omega)).mono ?_
  rintro e w1 ⟨r, rfl, hr1, hr2, hr3, hb1⟩
  obtain ⟨hc, hf⟩ := bcell hb1
  have t0 : w1.cell? ⟨w.heap.size, 0, none⟩ = some (.slice a N.pcs.length cap) := by rw [hc _ _ (by simp; omega)]; simp [go_sem]
  have t1 : w1.cell? ⟨w.heap.size, 1, none⟩ = some (.slice a' N.jts.length cap') := by rw [hc _ _ (by simp; omega)]; simp [go_sem]
  have e0 : w1.cell? ⟨w.heap.size + 1, 0, none⟩ = some (.int .i64 p) := by rw [hc _ _ (by simp)]; simp [go_sem]
  have e1 : w1.cell? ⟨w.heap.size + 1, 1, none⟩ = some (.int .i64 s) := by rw [hc _ _ (by simp)]; simp [go_sem]
  have hB1 := hbW.trans (hb1.mono hbW.size)
  have HR := hide hr3
  clear hr3 hb1 hc hf
  by_cases hr : r < 0
  · go_wp2_with fail
    go_ret
    exact ⟨rfl, hB1⟩
  have hrr : decide (r < 0) = false := by rw [decide_eq_false_iff_not]; exact hr
  obtain ⟨⟨hn, hns⟩, hl, hls⟩ := HR.out (by omega)
  have HNS := hide hns
  have HLS := hide hls
  have HLM := hide (fun j (hj : j ∈ N.jts) => (HLS.out j hj).2)
  clear hns hls
  have hz0 := cell_lt t0
  have hz1 := cell_lt e0
  have hD1 : Below w.heap.size w w1.drew := hB1.drew
  have h11 : Below w1.heap.size w1 w1.drew := (Below.refl _ _).drew
  go_upto_region 5 with fail
  go_cut [6] (fun s6 wx => ∃ r : Int, s6 = .int .i64 r ∧ JA N (p, s) r ∧ Below w1.heap.size w1 wx)
  case first =>
    go_region_with (first
      | (go_at_call 16; refine (toNet_any a a' N cap cap' _ hn ?_ hl ?_ ?_).mono ?_; (first | exact HP.out.later hD1 | exact HP.out.later (hD1.trans (hbE.mono hD1.size))); exact HLM.out; (first | exact HJ.out.later hD1 | exact HJ.out.later (hD1.trans (hbE.mono hD1.size))); rintro e w2 ⟨b1, b2, rfl, hO, hbN⟩; have t0N : w2.cell? ⟨w.heap.size, 0, none⟩ = some (.slice a N.pcs.length cap) := (by first | exact cell_later' (chain h11 hbN) t0 | exact cell_later' hbN t0E); have t1N : w2.cell? ⟨w.heap.size, 1, none⟩ = some (.slice a' N.jts.length cap') := (by first | exact cell_later' (chain h11 hbN) t1 | exact cell_later' hbN t1E); have e0N : w2.cell? ⟨w.heap.size + 1, 0, none⟩ = some (.int .i64 p) := (by first | exact cell_later' (chain h11 hbN) e0 | exact cell_later' hbN e0E); have e1N : w2.cell? ⟨w.heap.size + 1, 1, none⟩ = some (.int .i64 s) := (by first | exact cell_later' (chain h11 hbN) e1 | exact cell_later' hbN e1E))
      | (go_at_call 21; refine (toEnd_any _ _ _).mono ?_; rintro e w3 ⟨rfl, hbE⟩; have t0E : w3.cell? ⟨w.heap.size, 0, none⟩ = some (.slice a N.pcs.length cap) := (by first | exact cell_later' (chain h11 hbE) t0 | exact cell_later' hbE t0N); have t1E : w3.cell? ⟨w.heap.size, 1, none⟩ = some (.slice a' N.jts.length cap') := (by first | exact cell_later' (chain h11 hbE) t1 | exact cell_later' hbE t1N); have e0E : w3.cell? ⟨w.heap.size + 1, 0, none⟩ = some (.int .i64 p) := (by first | exact cell_later' (chain h11 hbE) e0 | exact cell_later' hbE e0N); have e1E : w3.cell? ⟨w.heap.size + 1, 1, none⟩ = some (.int .i64 s) := (by first | exact cell_later' (chain h11 hbE) e1 | exact cell_later' hbE e1N))
      | (go_at_call 20; refine (specJointAt_any _ _ N _ _ _ _ _ hn HNS.out hl HLS.out ?_ ?_).mono ?_; (first | exact hO.2.2.2.1 | exact (hO.later hbE).2.2.2.1); (first | exact hO.2.2.2.2.at | exact (hO.later hbE).2.2.2.2.at); rintro e w4 ⟨r', rfl, hJA, hbJ⟩))
    all_goals
      go_wp2_with fail
      go_meet
      exact ⟨r', rfl, hJA, chain (chain (chain h11 hbN) hbE) hbJ⟩
  case rest =>
    obtain ⟨r6, rfl, hJA6, hbx⟩ := hcut
    have HJA6 := hide hJA6
    have hB2 := hB1.trans (hbx.mono hB1.size)
    have t0 := cell_later' hbx t0
    have t1 := cell_later' hbx t1
    have e0 := cell_later' hbx e0
    have e1 := cell_later' hbx e1
    clear hJA6 hbx hz0 hz1 hD1 h11 hB1
    go_wp2_with fail
    refine (toNet_any a a' N cap cap' _ hn (HP.out.later hB2) hl HLM.out (HJ.out.later hB2)).mono ?_
    rintro e w5 ⟨c1, c2, rfl, hO, hb5⟩
    have hB5 := hB2.trans (hb5.mono hB2.size)
    have t0 := cell_later' hb5 t0
    have t1 := cell_later' hb5 t1
    have e0 := cell_later' hb5 e0
    have e1 := cell_later' hb5 e1
    have hA := (Below.refl w5.heap.size w5).alloc (Nat.le_refl _) (.cells #[.slice (some ⟨c1, 0, none⟩) N.pcs.length N.pcs.length, .slice (some ⟨c2, 0, none⟩) N.jts.length N.jts.length] 33)
    have v0 := new_cell w5 #[.slice (some ⟨c1, 0, none⟩) N.pcs.length N.pcs.length, .slice (some ⟨c2, 0, none⟩) N.jts.length N.jts.length] 33 0 _ rfl
    have v1 := new_cell w5 #[.slice (some ⟨c1, 0, none⟩) N.pcs.length N.pcs.length, .slice (some ⟨c2, 0, none⟩) N.jts.length N.jts.length] 33 1 _ rfl
    have hO := hO.later hA
    have t0 := cell_later' hA t0
    have t1 := cell_later' hA t1
    have e0 := cell_later' hA e0
    have e1 := cell_later' hA e1
    have hB6 := hB5.trans (hA.mono hB5.size)
    have HO := hide hO
    clear hO hA hb5
    go_upto_region 7 with fail
    generalize w5.alloc (.cells #[.slice (some ⟨c1, 0, none⟩) N.pcs.length N.pcs.length, .slice (some ⟨c2, 0, none⟩) N.jts.length N.jts.length] 33) = w6 at *
    have h66 : Below w6.heap.size w6 w6.drew := (Below.refl _ _).drew
    go_cut [8] (fun s8 wx => ∃ r : Int, s8 = .int .i64 r ∧ JA N (p, s) r ∧ Below w6.heap.size w6 wx)
    case first =>
      go_region_with (first
        | (go_at_call 21; refine (toEnd_any _ _ _).mono ?_; rintro e w7 ⟨rfl, hbE⟩; have hb67 := chain h66 hbE; have v0' := cell_later' hb67 v0; have v1' := cell_later' hb67 v1)
        | (go_at_call 22; refine (implJointAt_any _ _ N _ _ _ _ _ HWF.out hn HNS.out hl HLS.out ?_ ?_).mono ?_; exact (HO.out.later hb67).2.2.2.1; exact (HO.out.later hb67).2.2.2.2.at; rintro e w8 ⟨r', rfl, hJA, hbJ⟩))
      all_goals
        go_wp2_with fail
        go_meet
        exact ⟨r', rfl, hJA, chain hb67 hbJ⟩
    case rest =>
      obtain ⟨r8, rfl, hJA8, hbx⟩ := hcut
      obtain rfl := JA.unique hJA8 HJA6.out
      clear hJA8 HJA6
      have hB8 := hB6.trans (hbx.mono hB6.size)
      have t0 := cell_later' hbx t0
      have t1 := cell_later' hbx t1
      have v0 := cell_later' hbx v0
      have v1 := cell_later' hbx v1
      have HO8 := hide (HO.out.later hbx)
      have hBd : Below w.heap.size w wc.drew := hB8.drew
      have h88 : Below wc.heap.size wc wc.drew := (Below.refl _ _).drew
      have HPd := hide (HP.out.later hBd)
      have HJd := hide (HJ.out.later hBd)
      have HX0 := hide HO8.out.2.2.2.1
      have HX1 := hide HO8.out.2.2.2.2.at
      clear hbx
      go_wp2_with fail
      go_region_with (first
        | (go_at_call 16; refine (toNet_any a a' N cap cap' _ hn ?_ hl ?_ ?_).mono ?_; exact HPd.out; exact HLM.out; exact HJd.out; rintro e w7 ⟨d1, d2, rfl, hO7, hb7⟩; have hb67 := chain h88 hb7; have v0' := cell_later' hb67 v0; have v1' := cell_later' hb67 v1)
        | (go_at_call 19; refine (eqNet_same _ _ _ _ N _ _ _ _ _ hn hl ?_ ?_ ?_ ?_ ?_).mono ?_; exact HLM.out; exact HX0.out.later hb67; exact hO7.2.2.2.1; exact HX1.out.later hb67; exact hO7.2.2.2.2.at; rintro e w8 ⟨rfl, hb8⟩))
      all_goals
        have hB9 := hB8.trans ((chain hb67 hb8).mono hB8.size)
        go_wp2_with fail
        go_ret
        exact ⟨rfl, hB9⟩
end Go.Proofs.Ytplnppdlabpodaa
