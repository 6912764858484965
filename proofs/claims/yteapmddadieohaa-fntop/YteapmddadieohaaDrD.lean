/- spec.Drive, eqDriven. Own work. -/
import Derived.Test.YteapmddadieohaaDrS
import Derived.Test.YteapmddadieohaaMxAI
namespace Go.Proofs.Yteapmddadieohaa
open Go.RowKit
set_option maxHeartbeats 2000000

/-- What Drive answers. -/
def DriveA (N : Nt) (xs : List Int) (q at' way far : Int) (t : DRes) : Prop :=
  if goodP N xs q at' way far = true then ∃ r : DRes, DriveR N xs far 0 q at' way 0 [] r ∧ t = ⟨r.code, r.far, r.joint, r.q, r.at', r.way, []⟩ else t = ⟨4, 0, 0, 0, 0, 0, []⟩

theorem good_all {N : Nt} {xs : List Int} {q at' way far : Int} (h : goodP N xs q at' way far = true) : netOk N = (0, 0) ∧ liesP N.jts xs = true ∧ spotP N q at' way = true ∧ 0 ≤ far ∧ far ≤ 1000000 := by
  simp only [goodP, inR, Bool.and_eq_true, decide_eq_true_eq] at h
  exact ⟨h.1.1.1, h.1.1.2, h.1.2, h.2.1, h.2.2⟩

theorem driveA_one {N : Nt} {xs : List Int} {q at' way far : Int} {t t' : DRes} (h : DriveA N xs q at' way far t) (h' : DriveA N xs q at' way far t') : t = t' := by
  unfold DriveA at h h'
  split at h
  · rename_i hg
    rw [if_pos hg] at h'
    obtain ⟨r, hr, rfl⟩ := h
    obtain ⟨r', hr', rfl⟩ := h'
    rw [drive_one (good_all hg).1 hr hr']
  · rename_i hg
    rw [if_neg hg] at h'
    rw [h, h']

theorem below6 {w wq : World} (hb : Below w.heap.size w wq) (x0 x1 x2 x3 x4 x5 : Value) :
    Below w.heap.size w ((((((wq.setCell ⟨w.heap.size + 1 + 1, 0, none⟩ x0).setCell ⟨w.heap.size + 1 + 1, 1, none⟩ x1).setCell ⟨w.heap.size + 1 + 1, 2, none⟩ x2).setCell ⟨w.heap.size + 1 + 1, 3, none⟩ x3).setCell ⟨w.heap.size + 1 + 1, 4, none⟩ x4).setCell ⟨w.heap.size + 1 + 1, 5, none⟩ x5) := by
  have hle : w.heap.size ≤ w.heap.size + 1 + 1 := by omega
  exact (((((hb.setCell hle _).setCell hle _).setCell hle _).setCell hle _).setCell hle _).setCell hle _

theorem specDrive_any (a a' z : Option Addr) (N : Nt) (cap cap' zc : Nat) (xs : List Int) (q at' way far : Int) (w : World) (hn : N.pcs.length ≤ 1048576) (hs : ∀ p ∈ N.pcs, p.name.size ≤ 1048576) (hl : N.jts.length ≤ 1048576) (hm : ∀ j ∈ N.jts, j.name.size ≤ 1048576 ∧ j.ends.length ≤ 1048576) (hx : xs.length ≤ 1048576) (hp : PcsAt w a N.pcs) (hj : JtsAt w a' N.jts) (hz : IntsAt w z xs) :
    Calls Try.prog 11 #[.agg #[.slice a N.pcs.length cap, .slice a' N.jts.length cap'], .slice z xs.length zc, .agg #[.int .i64 q, .int .i64 at', .int .i64 way], .int .i64 far] w fun e w' =>
    ∃ r : DRes, DriveA N xs q at' way far r ∧ e = .returned (.agg #[.int .i64 r.code, .int .i64 r.far, .int .i64 r.joint, .int .i64 r.q, .int .i64 r.at', .int .i64 r.way]) ∧ Below w.heap.size w w' := by
  have HP := hide hp
  have HJ := hide hj
  have HZ := hide hz
  have HM := hide hm
  have HS := hide hs
  clear hp hj hm hs hz
  go_enter Try.func11, Try.ntmps11
  go_wp2_with fail
  have hbW : Below w.heap.size w (((w.alloc (.cells #[.slice a N.pcs.length cap, .slice a' N.jts.length cap'] 26)).alloc (.cells #[.int .i64 q, .int .i64 at', .int .i64 way] 29)).alloc (.cells #[.int .i64 0, .int .i64 0, .int .i64 0, .int .i64 0, .int .i64 0, .int .i64 0] 35)) := (((Below.refl _ _).alloc (Nat.le_refl _) _).alloc (by simp) _).alloc (by simp; omega) _
  have HR0 : Hid (Six (((w.alloc (.cells #[.slice a N.pcs.length cap, .slice a' N.jts.length cap'] 26)).alloc (.cells #[.int .i64 q, .int .i64 at', .int .i64 way] 29)).alloc (.cells #[.int .i64 0, .int .i64 0, .int .i64 0, .int .i64 0, .int .i64 0, .int .i64 0] 35)) (w.heap.size + 1 + 1) 0 0 0 0 0 0) :=
    ⟨by simp [go_sem], by simp [go_sem], by simp [go_sem], by simp [go_sem], by simp [go_sem], by simp [go_sem], by simp [go_sem], by simp [go_sem], by simp [go_sem], by simp [go_sem], by simp [go_sem], by simp [go_sem]⟩
  refine (l3good_any a a' z N cap cap' zc xs q at' way far _ hn HS.out hl HM.out hx (HP.out.later hbW) (HJ.out.later hbW) (HZ.out.later hbW)).mono ?_
  rintro e w1 ⟨rfl, hb1⟩
  have hb2 := hbW.trans (hb1.mono hbW.size)
  obtain ⟨hc, hf⟩ := bcell hb1
  have n0 : w1.cell? ⟨w.heap.size, 0, none⟩ = some (.slice a N.pcs.length cap) := by rw [hc _ _ (by simp; omega)]; simp [go_sem]
  have n1 : w1.cell? ⟨w.heap.size, 1, none⟩ = some (.slice a' N.jts.length cap') := by rw [hc _ _ (by simp; omega)]; simp [go_sem]
  have e0 : w1.cell? ⟨w.heap.size + 1, 0, none⟩ = some (.int .i64 q) := by rw [hc _ _ (by simp)]; simp [go_sem]
  have e1 : w1.cell? ⟨w.heap.size + 1, 1, none⟩ = some (.int .i64 at') := by rw [hc _ _ (by simp)]; simp [go_sem]
  have e2 : w1.cell? ⟨w.heap.size + 1, 2, none⟩ = some (.int .i64 way) := by rw [hc _ _ (by simp)]; simp [go_sem]
  have HR1 := hide (HR0.out.later hb1)
  clear hc hf hb1 HR0 hbW
  cases hr : goodP N xs q at' way far
  · have HR := hide (show DriveA N xs q at' way far ⟨4, 0, 0, 0, 0, 0, []⟩ by unfold DriveA; rw [hr]; rfl)
    clear hr
    obtain ⟨r0, r1, r2, r3, r4, r5, f0, f1, f2, f3, f4, f5⟩ := HR1.out
    go_wp2_with fail
    exact bodyPost_ret (v := .agg #[.int .i64 4, .int .i64 0, .int .i64 0, .int .i64 0, .int .i64 0, .int .i64 0]) (by simp [results, Try.results11, go_sem, r0, r1, r2, r3, r4, r5]) rfl ⟨⟨4, 0, 0, 0, 0, 0, []⟩, HR.out, rfl, below6 hb2 _ _ _ _ _ _⟩
  have HR := hide hr
  have hgp := good_all hr
  have HG := hide hgp
  obtain ⟨_, _, _, hfar⟩ := hgp
  clear hr
  go_wp2_with fail
  refine (l3drive_any _ _ z N _ _ _ xs q at' way far _ hl (fun j hj => (HM.out j hj).2) HG.out.1 HG.out.2.1 HG.out.2.2.1 hfar (HP.out.later hb2) (HJ.out.later hb2) (HZ.out.later hb2)).mono ?_
  rintro e w2 ⟨r, hdr, _, v, rfl, _, hb3⟩
  have HDR := hide (show DriveA N xs q at' way far ⟨r.code, r.far, r.joint, r.q, r.at', r.way, []⟩ by unfold DriveA; rw [if_pos HR.out]; exact ⟨r, hdr, rfl⟩)
  have hb4 := hb2.trans (hb3.mono hb2.size)
  have HR2 := hide (HR1.out.later hb3)
  clear hdr hb3 HR1
  obtain ⟨code, rf, rj, rq, ra, rw', rps⟩ := r
  dsimp only at HDR ⊢
  obtain ⟨r0, r1, r2, r3, r4, r5, f0, f1, f2, f3, f4, f5⟩ := HR2.out
  have hz2 := cell_lt r0
  go_wp2_with fail
  exact bodyPost_ret (v := .agg #[.int .i64 code, .int .i64 rf, .int .i64 rj, .int .i64 rq, .int .i64 ra, .int .i64 rw']) (by simp [results, Try.results11, go_sem, r0, r1, r2, r3, r4, r5, hz2]) rfl ⟨⟨code, rf, rj, rq, ra, rw', []⟩, HDR.out, rfl, (below6 hb4 _ _ _ _ _ _).alloc (below6 hb4 _ _ _ _ _ _).size _⟩
end Go.Proofs.Yteapmddadieohaa
