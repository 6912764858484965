import Derived.Test.YtplnppdlabpodaaSeT
import Derived.Test.YtplnppdlabpodaaJaS
import Derived.Deep.RegionWith
import Derived.Deep.DeepCutAuto
namespace Go.Proofs.Ytplnppdlabpodaa
open Go.RowKit
set_option maxHeartbeats 1000000

set_option maxRecDepth 20000 in
theorem seatOf_any (a a' : Option Addr) (N : Nt) (cap cap' : Nat) (p s : Int) (w : World) (hwf : Wf2 (p, s)) (hn : N.pcs.length ≤ 1048576) (hs : ∀ p ∈ N.pcs, p.name.size ≤ 1048576) (hl : N.jts.length ≤ 1048576) (hm : ∀ j ∈ N.jts, j.name.size ≤ 1048576 ∧ j.ends.length ≤ 1048576) (hp : PcsAt w a N.pcs) (hj : JtsAt w a' N.jts) :
    Calls Try.prog 81 #[.agg #[.slice a N.pcs.length cap, .slice a' N.jts.length cap'], .agg #[.int .i64 p, .int .i64 s]] w fun e w' =>
    ∃ (x y z : Int) (ok : Bool), e = .returned (.tuple #[.agg #[.int .i64 x, .int .i64 y, .int .i64 z], .bool ok]) ∧ SeatIs N (p, s) (x, y, z) ok ∧ Below w.heap.size w w' := by
  have HP := hide hp
  have HJ := hide hj
  have HM := hide hm
  have HS := hide hs
  have HWF := hide hwf
  clear hp hj hm hs hwf
  go_enter Try.func81, Try.ntmps81
  go_wp2_with fail
  have hbW : Below w.heap.size w (((w.alloc (.cells #[.slice a N.pcs.length cap, .slice a' N.jts.length cap'] 33)).alloc (.cells #[.int .i64 p, .int .i64 s] 41)).alloc (.cells #[.int .i64 0, .int .i64 0, .int .i64 0] 105)) := (((Below.refl _ _).alloc (Nat.le_refl _) _).alloc (by simp) _).alloc (by simp; omega) _
  refine (implNetOk_any a a' N cap cap' _ hn HS.out hl HM.out (HP.out.later hbW) (HJ.out.later hbW)).mono ?_
  rintro e w1 ⟨rfl, hb1⟩
  have hb2 := hbW.trans (hb1.mono hbW.size)
  obtain ⟨hc, hf⟩ := bcell hb1
  have n1 : w1.cell? ⟨w.heap.size, 1, none⟩ = some (.slice a' N.jts.length cap') := by rw [hc _ _ (by simp; omega)]; simp [go_sem]
  have e0 : w1.cell? ⟨w.heap.size + 1, 0, none⟩ = some (.int .i64 p) := by rw [hc _ _ (by simp)]; simp [go_sem]
  have e1 : w1.cell? ⟨w.heap.size + 1, 1, none⟩ = some (.int .i64 s) := by rw [hc _ _ (by simp)]; simp [go_sem]
  have r0 : w1.cell? ⟨w.heap.size + 1 + 1, 0, none⟩ = some (.int .i64 0) := by rw [hc _ _ (by simp)]; simp [go_sem]
  have r1 : w1.cell? ⟨w.heap.size + 1 + 1, 1, none⟩ = some (.int .i64 0) := by rw [hc _ _ (by simp)]; simp [go_sem]
  have r2 : w1.cell? ⟨w.heap.size + 1 + 1, 2, none⟩ = some (.int .i64 0) := by rw [hc _ _ (by simp)]; simp [go_sem]
  have f0 : w1.frozen? ⟨w.heap.size + 1 + 1, 0, none⟩ = false := by rw [hf _ _ (by simp)]; simp [go_sem]
  have f1 : w1.frozen? ⟨w.heap.size + 1 + 1, 1, none⟩ = false := by rw [hf _ _ (by simp)]; simp [go_sem]
  have f2 : w1.frozen? ⟨w.heap.size + 1 + 1, 2, none⟩ = false := by rw [hf _ _ (by simp)]; simp [go_sem]
  clear hc hf hb1
  by_cases hr : netOk N = (0, 0)
  · rw [hr]
    have HR := hide hr
    clear hr
    have HW := hide (ends_wf hn (right_facts HR.out).2.2.1)
    have HME := hide (fun j (hj : j ∈ N.jts) => (HM.out j hj).2)
    have HJ1 := hide (HJ.out.later (Below.drew hb2))
    have HJ2 := hide (HJ.out.later (Below.drew (hb2.alloc hb2.size (.cells #[.int .i64 0, .int .i64 0, .int .i64 0] 105))))
    have h11 : Below w1.heap.size w1 w1.drew := (Below.refl _ _).drew
    have h12 : Below w1.heap.size w1 (w1.alloc (.cells #[.int .i64 0, .int .i64 0, .int .i64 0] 105)).drew := ((Below.refl _ _).alloc (Nat.le_refl _) _).drew
    have hz1 := cell_lt e0
    have hz0 := cell_lt n1
    have HSI := hide (seatIs_right HR.out (p, s))
    generalize hgt : (seatTo N.jts N.jts.length (p, s)).getD (0, 0, 0) = tt at HSI
    generalize hgo : (seatTo N.jts N.jts.length (p, s)).isSome = ok at HSI
    have HGT := hide hgt
    have HGO := hide hgo
    clear hgt hgo
    go_upto_region 3 with fail
    go_cut [6, 7] (fun s6 s7 wx => ∃ B : Nat, s6 = .pointer (some ⟨B, 0, none⟩) ∧ s7 = .bool ok ∧ wx.cell? ⟨B, 0, none⟩ = some (.int .i64 tt.1) ∧ wx.cell? ⟨B, 1, none⟩ = some (.int .i64 tt.2.1) ∧ wx.cell? ⟨B, 2, none⟩ = some (.int .i64 tt.2.2) ∧ Below w1.heap.size w1 wx)
    case first =>
      go_region_with (first | (go_at_call 110; refine (seatsOf_any a' cap' N.jts _ hl ?_ ?_ ?_).mono ?_; exact HME.out; exact HW.out; exact HJ1.out; rintro e w2 ⟨rfl, ⟨m, hSE⟩, hb3⟩; have hb13 := h11.trans hb3; have e0' := cell_later' hb13 e0; have e1' := cell_later' hb13 e1; have hz2 := cell_lt e0'; have hlk := hSE.look_ok p s HWF.out; have hlkA := fun o => (hSE.of_block (Below.heap_alloc w2 o _ hSE.lt)).look_ok p s HWF.out; rw [HGT.out, HGO.out] at hlk; simp only [HGT.out, HGO.out] at hlkA; unfold seatV at hlk hlkA; simp only [World.size_drew] at hlk hlkA; clear hSE) | (go_at_call 110; refine (seatsOf_any a' cap' N.jts _ hl ?_ ?_ ?_).mono ?_; exact HME.out; exact HW.out; exact HJ2.out; rintro e w2 ⟨rfl, ⟨m, hSE⟩, hb3⟩; have hb13 := h12.trans (hb3.mono (by simp)); obtain ⟨hc3, hf3⟩ := bcell hb3; have q0 : w2.cell? ⟨w1.heap.size, 0, none⟩ = some (.int .i64 0) := (by rw [hc3 _ _ (by simp)]; simp [go_sem]); have q1 : w2.cell? ⟨w1.heap.size, 1, none⟩ = some (.int .i64 0) := (by rw [hc3 _ _ (by simp)]; simp [go_sem]); have q2 : w2.cell? ⟨w1.heap.size, 2, none⟩ = some (.int .i64 0) := (by rw [hc3 _ _ (by simp)]; simp [go_sem]); have g0 : w2.frozen? ⟨w1.heap.size, 0, none⟩ = false := (by rw [hf3 _ _ (by simp)]; simp [go_sem]); have g1 : w2.frozen? ⟨w1.heap.size, 1, none⟩ = false := (by rw [hf3 _ _ (by simp)]; simp [go_sem]); have g2 : w2.frozen? ⟨w1.heap.size, 2, none⟩ = false := (by rw [hf3 _ _ (by simp)]; simp [go_sem]); clear hc3 hf3; have e0' := cell_later' hb13 e0; have e1' := cell_later' hb13 e1; have hz2 := cell_lt e0'; have hlk := hSE.look_ok p s HWF.out; have hlkA := fun o => (hSE.of_block (Below.heap_alloc w2 o _ hSE.lt)).look_ok p s HWF.out; rw [HGT.out, HGO.out] at hlk; simp only [HGT.out, HGO.out] at hlkA; unfold seatV at hlk hlkA; simp only [World.size_drew, World.size_alloc] at hlk hlkA; clear hSE))
      all_goals
        go_wp2_with fail
        go_meet
        refine ⟨_, rfl, rfl, ?_, ?_, ?_, ?_⟩
        · go_simp
        · go_simp
        · go_simp
        · first | exact hb13.alloc hb13.size _ | exact ((hb13.setCell (Nat.le_refl _) _).setCell (Nat.le_refl _) _).setCell (Nat.le_refl _) _
    case rest =>
      obtain ⟨B, rfl, rfl, c0, c1, c2, hbx⟩ := hcut
      have hzr := cell_lt r0
      have r0 := cell_later' hbx r0
      have r1 := cell_later' hbx r1
      have r2 := cell_later' hbx r2
      have f0 : wc.frozen? ⟨w.heap.size + 1 + 1, 0, none⟩ = false := by rw [hbx.frozen (p := ⟨w.heap.size + 1 + 1, 0, none⟩) hzr]; exact f0
      have f1 : wc.frozen? ⟨w.heap.size + 1 + 1, 1, none⟩ = false := by rw [hbx.frozen (p := ⟨w.heap.size + 1 + 1, 1, none⟩) hzr]; exact f1
      have f2 : wc.frozen? ⟨w.heap.size + 1 + 1, 2, none⟩ = false := by rw [hbx.frozen (p := ⟨w.heap.size + 1 + 1, 2, none⟩) hzr]; exact f2
      have hbf := hb2.trans (hbx.mono hb2.size)
      go_wp2_with fail
      exact bodyPost_ret (v := .tuple #[.agg #[.int .i64 tt.1, .int .i64 tt.2.1, .int .i64 tt.2.2], .bool ok]) (by simp [results, Try.results81, go_sem, r0, r1, r2]) rfl ⟨tt.1, tt.2.1, tt.2.2, ok, rfl, HSI.out, ((hbf.setCell (by simp; omega) _).setCell (by simp; omega) _).setCell (by simp; omega) _⟩
  · have HR := hide hr
    have hne : ((netOk N).1 == 0) = false := by rw [netOk_code]; simpa using hr
    clear hr
    go_wp2_with fail
    exact bodyPost_ret (v := .tuple #[.agg #[.int .i64 0, .int .i64 0, .int .i64 0], .bool false]) (by simp [results, Try.results81, go_sem, r0, r1, r2]) rfl ⟨0, 0, 0, false, rfl, seatIs_wrong HR.out _ _, by repeat (first | exact hb2 | refine Below.setCell ?_ (by simp; omega) _)⟩
end Go.Proofs.Ytplnppdlabpodaa
