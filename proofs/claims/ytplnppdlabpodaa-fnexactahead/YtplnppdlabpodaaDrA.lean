/- spec.Ahead, spec.Behind. Own work. -/
import Derived.Test.YtplnppdlabpodaaDrS
namespace Go.Proofs.Ytplnppdlabpodaa
open Go.RowKit
set_option maxHeartbeats 2000000

/-- What Ahead answers. -/
def AheadR (N : Nt) (xs : List Int) (q at' way far : Int) (ps : List (Int × Int × Int)) : Prop :=
  if goodP N xs q at' way far = true then ∃ r : DRes, DriveR N xs far 0 q at' way 0 [] r ∧ r.ps = ps else ps = []
/-- What Behind answers. -/
def BehindR (N : Nt) (xs : List Int) (q at' way far : Int) (ps : List (Int × Int × Int)) : Prop :=
  if goodP N xs q at' way far = true then ∃ r : DRes, DriveR N xs far 0 q at' (-way) 0 [] r ∧ r.ps = ps else ps = []

theorem good_parts {N : Nt} {xs : List Int} {q at' way far : Int} (h : goodP N xs q at' way far = true) : netOk N = (0, 0) ∧ liesP N.jts xs = true ∧ spotP N q at' way = true ∧ 0 ≤ far ∧ far ≤ 1000000 := by
  simp only [goodP, inR, Bool.and_eq_true, decide_eq_true_eq] at h
  exact ⟨h.1.1.1, h.1.1.2, h.1.2, h.2.1, h.2.2⟩

theorem ahead_one {N : Nt} {xs : List Int} {q at' way far : Int} {ps ps' : List (Int × Int × Int)} (h : AheadR N xs q at' way far ps) (h' : AheadR N xs q at' way far ps') : ps = ps' := by
  unfold AheadR at h h'
  split at h
  · rename_i hg
    rw [if_pos hg] at h'
    obtain ⟨r, hr, rfl⟩ := h
    obtain ⟨r', hr', rfl⟩ := h'
    rw [drive_one (good_parts hg).1 hr hr']
  · rename_i hg
    rw [if_neg hg] at h'
    rw [h, h']

theorem behind_one {N : Nt} {xs : List Int} {q at' way far : Int} {ps ps' : List (Int × Int × Int)} (h : BehindR N xs q at' way far ps) (h' : BehindR N xs q at' way far ps') : ps = ps' := by
  unfold BehindR at h h'
  split at h
  · rename_i hg
    rw [if_pos hg] at h'
    obtain ⟨r, hr, rfl⟩ := h
    obtain ⟨r', hr', rfl⟩ := h'
    rw [drive_one (good_parts hg).1 hr hr']
  · rename_i hg
    rw [if_neg hg] at h'
    rw [h, h']

theorem spot_back {N : Nt} {q at' way : Int} (h : spotP N q at' way = true) : spotP N q at' (-way) = true := by
  simp only [spotP, Bool.and_eq_true, Bool.or_eq_true, beq_iff_eq] at h ⊢
  refine ⟨⟨h.1.1, ?_⟩, h.2⟩
  rcases h.1.2 with h | h
  · right; omega
  · left; omega

theorem specAhead_any (a a' z : Option Addr) (N : Nt) (cap cap' zc : Nat) (xs : List Int) (q at' way far : Int) (w : World) (hn : N.pcs.length ≤ 1048576) (hs : ∀ p ∈ N.pcs, p.name.size ≤ 1048576) (hl : N.jts.length ≤ 1048576) (hm : ∀ j ∈ N.jts, j.name.size ≤ 1048576 ∧ j.ends.length ≤ 1048576) (hx : xs.length ≤ 1048576) (hp : PcsAt w a N.pcs) (hj : JtsAt w a' N.jts) (hz : IntsAt w z xs) :
    Calls Try.prog 40 #[.agg #[.slice a N.pcs.length cap, .slice a' N.jts.length cap'], .slice z xs.length zc, .agg #[.int .i64 q, .int .i64 at', .int .i64 way], .int .i64 far] w fun e w' =>
    ∃ ps, AheadR N xs q at' way far ps ∧ ps.length ≤ 1000000 ∧ ∃ v, e = .returned v ∧ w'.ownsRow w.heap.size 119 3 v ps.length (partCells ps) ∧ Below w.heap.size w w' := by
  have HP := hide hp
  have HJ := hide hj
  have HZ := hide hz
  have HM := hide hm
  have HS := hide hs
  clear hp hj hm hs hz
  go_enter Try.func40, Try.ntmps40
  go_wp2_with fail
  have hbW : Below w.heap.size w ((w.alloc (.cells #[.slice a N.pcs.length cap, .slice a' N.jts.length cap'] 33)).alloc (.cells #[.int .i64 q, .int .i64 at', .int .i64 way] 52)) := ((Below.refl _ _).alloc (Nat.le_refl _) _).alloc (by simp) _
  refine (l3good_any a a' z N cap cap' zc xs q at' way far _ hn HS.out hl HM.out hx (HP.out.later hbW) (HJ.out.later hbW) (HZ.out.later hbW)).mono ?_
  rintro e w1 ⟨rfl, hb1⟩
  have hb2 := hbW.trans (hb1.mono hbW.size)
  obtain ⟨hc, hf⟩ := bcell hb1
  have n0 : w1.cell? ⟨w.heap.size, 0, none⟩ = some (.slice a N.pcs.length cap) := by rw [hc _ _ (by simp; omega)]; simp [go_sem]
  have n1 : w1.cell? ⟨w.heap.size, 1, none⟩ = some (.slice a' N.jts.length cap') := by rw [hc _ _ (by simp; omega)]; simp [go_sem]
  have e0 : w1.cell? ⟨w.heap.size + 1, 0, none⟩ = some (.int .i64 q) := by rw [hc _ _ (by simp)]; simp [go_sem]
  have e1 : w1.cell? ⟨w.heap.size + 1, 1, none⟩ = some (.int .i64 at') := by rw [hc _ _ (by simp)]; simp [go_sem]
  have e2 : w1.cell? ⟨w.heap.size + 1, 2, none⟩ = some (.int .i64 way) := by rw [hc _ _ (by simp)]; simp [go_sem]
  clear hc hf hb1
  cases hr : goodP N xs q at' way far
  · have HR := hide (show AheadR N xs q at' way far [] by unfold AheadR; rw [hr]; rfl)
    clear hr
    go_wp2_with fail
    go_ret
    exact ⟨[], HR.out, by simp, _, rfl, World.ownsRow_nil _ _ _ _, hb2⟩
  have HR := hide hr
  have hgp := good_parts hr
  have HG := hide hgp
  obtain ⟨_, _, _, hfar⟩ := hgp
  clear hr
  go_wp2_with fail
  refine (l3drive_any _ _ z N _ _ _ xs q at' way far _ hl (fun j hj => (HM.out j hj).2) HG.out.1 HG.out.2.1 HG.out.2.2.1 hfar (HP.out.later hb2) (HJ.out.later hb2) (HZ.out.later hb2)).mono ?_
  rintro e w2 ⟨r, hdr, hpl, v, rfl, how, hb3⟩
  have HDR := hide (show AheadR N xs q at' way far r.ps by unfold AheadR; rw [if_pos HR.out]; exact ⟨r, hdr, rfl⟩)
  have HOW := hide how
  have hb4 := hb2.trans (hb3.mono hb2.size)
  clear hdr how hb3
  go_wp2_with fail
  go_ret
  exact ⟨r.ps, HDR.out, hpl, _, rfl, owns_low (HOW.out.alloc _) hb2.size, hb4.alloc hb4.size _⟩

theorem specBehind_any (a a' z : Option Addr) (N : Nt) (cap cap' zc : Nat) (xs : List Int) (q at' way far : Int) (w : World) (hn : N.pcs.length ≤ 1048576) (hs : ∀ p ∈ N.pcs, p.name.size ≤ 1048576) (hl : N.jts.length ≤ 1048576) (hm : ∀ j ∈ N.jts, j.name.size ≤ 1048576 ∧ j.ends.length ≤ 1048576) (hx : xs.length ≤ 1048576) (hp : PcsAt w a N.pcs) (hj : JtsAt w a' N.jts) (hz : IntsAt w z xs) :
    Calls Try.prog 46 #[.agg #[.slice a N.pcs.length cap, .slice a' N.jts.length cap'], .slice z xs.length zc, .agg #[.int .i64 q, .int .i64 at', .int .i64 way], .int .i64 far] w fun e w' =>
    ∃ ps, BehindR N xs q at' way far ps ∧ ps.length ≤ 1000000 ∧ ∃ v, e = .returned v ∧ w'.ownsRow w.heap.size 119 3 v ps.length (partCells ps) ∧ Below w.heap.size w w' := by
  have HP := hide hp
  have HJ := hide hj
  have HZ := hide hz
  have HM := hide hm
  have HS := hide hs
  clear hp hj hm hs hz
  go_enter Try.func46, Try.ntmps46
  go_wp2_with fail
  have hbW : Below w.heap.size w ((w.alloc (.cells #[.slice a N.pcs.length cap, .slice a' N.jts.length cap'] 33)).alloc (.cells #[.int .i64 q, .int .i64 at', .int .i64 way] 52)) := ((Below.refl _ _).alloc (Nat.le_refl _) _).alloc (by simp) _
  refine (l3good_any a a' z N cap cap' zc xs q at' way far _ hn HS.out hl HM.out hx (HP.out.later hbW) (HJ.out.later hbW) (HZ.out.later hbW)).mono ?_
  rintro e w1 ⟨rfl, hb1⟩
  have hb2 := hbW.trans (hb1.mono hbW.size)
  obtain ⟨hc, hf⟩ := bcell hb1
  have n0 : w1.cell? ⟨w.heap.size, 0, none⟩ = some (.slice a N.pcs.length cap) := by rw [hc _ _ (by simp; omega)]; simp [go_sem]
  have n1 : w1.cell? ⟨w.heap.size, 1, none⟩ = some (.slice a' N.jts.length cap') := by rw [hc _ _ (by simp; omega)]; simp [go_sem]
  have e0 : w1.cell? ⟨w.heap.size + 1, 0, none⟩ = some (.int .i64 q) := by rw [hc _ _ (by simp)]; simp [go_sem]
  have e1 : w1.cell? ⟨w.heap.size + 1, 1, none⟩ = some (.int .i64 at') := by rw [hc _ _ (by simp)]; simp [go_sem]
  have e2 : w1.cell? ⟨w.heap.size + 1, 2, none⟩ = some (.int .i64 way) := by rw [hc _ _ (by simp)]; simp [go_sem]
  have ef : w1.frozen? ⟨w.heap.size + 1, 2, none⟩ = false := by rw [hf _ _ (by simp)]; simp [go_sem]
  clear hc hf hb1
  cases hr : goodP N xs q at' way far
  · have HR := hide (show BehindR N xs q at' way far [] by unfold BehindR; rw [hr]; rfl)
    clear hr
    go_wp2_with fail
    go_ret
    exact ⟨[], HR.out, by simp, _, rfl, World.ownsRow_nil _ _ _ _, hb2⟩
  have HR := hide hr
  have hgp := good_parts hr
  have HG := hide hgp
  obtain ⟨_, _, hspq, hfar⟩ := hgp
  have hw0 : -1 ≤ way ∧ way ≤ 1 := by
    simp only [spotP, Bool.and_eq_true, Bool.or_eq_true, beq_iff_eq] at hspq
    omega
  clear hr hspq
  have hb3 : Below w.heap.size w (w1.setCell ⟨w.heap.size + 1, 2, none⟩ (.int .i64 (-way))) := hb2.setCell (by show w.heap.size ≤ w.heap.size + 1; omega) _
  go_wp2_with fail
  refine (l3drive_any _ _ z N _ _ _ xs q at' (-way) far _ hl (fun j hj => (HM.out j hj).2) HG.out.1 HG.out.2.1 (spot_back HG.out.2.2.1) hfar (HP.out.later hb3) (HJ.out.later hb3) (HZ.out.later hb3)).mono ?_
  rintro e w2 ⟨r, hdr, hpl, v, rfl, how, hb4⟩
  have HDR := hide (show BehindR N xs q at' way far r.ps by unfold BehindR; rw [if_pos HR.out]; exact ⟨r, hdr, rfl⟩)
  have HOW := hide how
  have hb5 := hb3.trans (hb4.mono hb3.size)
  clear hdr how hb4
  go_wp2_with fail
  go_ret
  exact ⟨r.ps, HDR.out, hpl, _, rfl, owns_low (HOW.out.alloc _) hb3.size, hb5.alloc hb5.size _⟩
end Go.Proofs.Ytplnppdlabpodaa
