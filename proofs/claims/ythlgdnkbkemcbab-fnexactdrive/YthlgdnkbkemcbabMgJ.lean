/- spec.Drive, eqDriven. Own work. -/
import Derived.Test.YthlgdnkbkemcbabMgK
import Derived.Test.YthlgdnkbkemcbabSpT
import Derived.Test.YthlgdnkbkemcbabMgI
import Derived.Test.YthlgdnkbkemcbabTo
namespace Go.Proofs.Ythlgdnkbkemcbab
open Go.RowKit
set_option maxHeartbeats 2000000

/-- What Drive answers. -/
def DriveA (N : Nt) (xs : List Int) (q at' way far : Int) (t : DRes) : Prop :=
  if goodP N xs q at' way far = true then ∃ r : DRes, DriveR N xs far 0 q at' way 0 [] r ∧ t = ⟨r.code, r.far, r.joint, r.q, r.at', r.way, []⟩ else t = ⟨4, 0, 0, 0, 0, 0, []⟩

theorem good_all {N : Nt} {xs : List Int} {q at' way far : Int} (h : goodP N xs q at' way far = true) : netOk N = (0, 0) ∧ liesP N.jts xs = true ∧ spotP N q at' way = true ∧ 0 ≤ far ∧ far ≤ 1000000 := by
  simp only [goodP, inR, Bool.and_eq_true, decide_eq_true_eq] at h
  exact ⟨h.1.1.1, h.1.1.2, h.1.2, h.2.1, h.2.2⟩

theorem driveA_one {N : Nt} {xs : List Int} {q at' way far : Int} {t t' : DRes} (h : DriveA N xs q at' way far t) (h' : DriveA N xs q at' way far t') : t = t' := by
  unfold DriveA at h h'
  split at h
  · rename_i hg
    rw [if_pos hg] at h'
    obtain ⟨r, hr, rfl⟩ := h
    obtain ⟨r', hr', rfl⟩ := h'
    rw [drive_one (good_all hg).1 hr hr']
  · rename_i hg
    rw [if_neg hg] at h'
    rw [h, h']

theorem below6 {w wq : World} (hb : Below w.heap.size w wq) (x0 x1 x2 x3 x4 x5 : Value) :
    Below w.heap.size w ((((((wq.setCell ⟨w.heap.size + 1 + 1, 0, none⟩ x0).setCell ⟨w.heap.size + 1 + 1, 1, none⟩ x1).setCell ⟨w.heap.size + 1 + 1, 2, none⟩ x2).setCell ⟨w.heap.size + 1 + 1, 3, none⟩ x3).setCell ⟨w.heap.size + 1 + 1, 4, none⟩ x4).setCell ⟨w.heap.size + 1 + 1, 5, none⟩ x5) := by
  have hle : w.heap.size ≤ w.heap.size + 1 + 1 := by omega
  exact (((((hb.setCell hle _).setCell hle _).setCell hle _).setCell hle _).setCell hle _).setCell hle _

theorem eqDriven_same (x0 x1 x2 x3 x4 x5 : Int) (w : World) : Calls Try.prog 25 #[.agg #[.int .i64 x0, .int .i64 x1, .int .i64 x2, .int .i64 x3, .int .i64 x4, .int .i64 x5], .agg #[.int .i64 x0, .int .i64 x1, .int .i64 x2, .int .i64 x3, .int .i64 x4, .int .i64 x5]] w fun e w' =>
    e = .returned (.bool true) ∧ Below w.heap.size w w' := by
  go_enter Try.func25, Try.ntmps25
  go_wp2_with fail
  refine (eqSpot_same x3 x4 x5 _).mono ?_
  rintro e w1 ⟨rfl, hb1⟩
  have hb : Below w.heap.size w w1 := (((Below.refl w.heap.size w).alloc (Nat.le_refl _) _).alloc (by simp) _).trans (hb1.mono (by simp; omega))
  go_wp2_with fail
  go_ret
  exact ⟨rfl, hb⟩

theorem specDrive_any (a a' z : Option Addr) (N : Nt) (cap cap' zc : Nat) (xs : List Int) (q at' way far : Int) (w : World) (hn : N.pcs.length ≤ 1048576) (hs : ∀ p ∈ N.pcs, p.name.size ≤ 1048576) (hl : N.jts.length ≤ 1048576) (hm : ∀ j ∈ N.jts, j.name.size ≤ 1048576 ∧ j.ends.length ≤ 1048576) (hx : xs.length ≤ 1048576) (hp : PcsAt w a N.pcs) (hj : JtsAt w a' N.jts) (hz : IntsAt w z xs) :
    Calls Try.prog 22 #[.agg #[.slice a N.pcs.length cap, .slice a' N.jts.length cap'], .slice z xs.length zc, .agg #[.int .i64 q, .int .i64 at', .int .i64 way], .int .i64 far] w fun e w' =>
    ∃ r : DRes, DriveA N xs q at' way far r ∧ e = .returned (.agg #[.int .i64 r.code, .int .i64 r.far, .int .i64 r.joint, .int .i64 r.q, .int .i64 r.at', .int .i64 r.way]) ∧ Below w.heap.size w w' := by
  have HP := hide hp
  have HJ := hide hj
  have HZ := hide hz
  have HM := hide hm
  have HS := hide hs
  clear hp hj hm hs hz
  go_enter Try.func22, Try.ntmps22
  go_wp2_with fail
  have hbW : Below w.heap.size w (((w.alloc (.cells #[.slice a N.pcs.length cap, .slice a' N.jts.length cap'] 33)).alloc (.cells #[.int .i64 q, .int .i64 at', .int .i64 way] 35)).alloc (.cells #[.int .i64 0, .int .i64 0, .int .i64 0, .int .i64 0, .int .i64 0, .int .i64 0] 43)) := (((Below.refl _ _).alloc (Nat.le_refl _) _).alloc (by simp) _).alloc (by simp; omega) _
  have HR0 : Hid (Six (((w.alloc (.cells #[.slice a N.pcs.length cap, .slice a' N.jts.length cap'] 33)).alloc (.cells #[.int .i64 q, .int .i64 at', .int .i64 way] 35)).alloc (.cells #[.int .i64 0, .int .i64 0, .int .i64 0, .int .i64 0, .int .i64 0, .int .i64 0] 43)) (w.heap.size + 1 + 1) 0 0 0 0 0 0) :=
    ⟨by simp [go_sem], by simp [go_sem], by simp [go_sem], by simp [go_sem], by simp [go_sem], by simp [go_sem], by simp [go_sem], by simp [go_sem], by simp [go_sem], by simp [go_sem], by simp [go_sem], by simp [go_sem]⟩
  refine (l3good_any a a' z N cap cap' zc xs q at' way far _ hn HS.out hl HM.out hx (HP.out.later hbW) (HJ.out.later hbW) (HZ.out.later hbW)).mono ?_
  rintro e w1 ⟨rfl, hb1⟩
  have hb2 := hbW.trans (hb1.mono hbW.size)
  obtain ⟨hc, hf⟩ := bcell hb1
  have n0 : w1.cell? ⟨w.heap.size, 0, none⟩ = some (.slice a N.pcs.length cap) := by rw [hc _ _ (by simp; omega)]; simp [go_sem]
  have n1 : w1.cell? ⟨w.heap.size, 1, none⟩ = some (.slice a' N.jts.length cap') := by rw [hc _ _ (by simp; omega)]; simp [go_sem]
  have e0 : w1.cell? ⟨w.heap.size + 1, 0, none⟩ = some (.int .i64 q) := by rw [hc _ _ (by simp)]; simp [go_sem]
  have e1 : w1.cell? ⟨w.heap.size + 1, 1, none⟩ = some (.int .i64 at') := by rw [hc _ _ (by simp)]; simp [go_sem]
  have e2 : w1.cell? ⟨w.heap.size + 1, 2, none⟩ = some (.int .i64 way) := by rw [hc _ _ (by simp)]; simp [go_sem]
  have HR1 := hide (HR0.out.later hb1)
  clear hc hf hb1 HR0 hbW
  cases hr : goodP N xs q at' way far
  · have HR := hide (show DriveA N xs q at' way far ⟨4, 0, 0, 0, 0, 0, []⟩ by unfold DriveA; rw [hr]; rfl)
    clear hr
    obtain ⟨r0, r1, r2, r3, r4, r5, f0, f1, f2, f3, f4, f5⟩ := HR1.out
    go_wp2_with fail
    exact bodyPost_ret (v := .agg #[.int .i64 4, .int .i64 0, .int .i64 0, .int .i64 0, .int .i64 0, .int .i64 0]) (by simp [results, Try.results22, go_sem, r0, r1, r2, r3, r4, r5]) rfl ⟨⟨4, 0, 0, 0, 0, 0, []⟩, HR.out, rfl, below6 hb2 _ _ _ _ _ _⟩
  have HR := hide hr
  have hgp := good_all hr
  have HG := hide hgp
  obtain ⟨_, _, _, hfar⟩ := hgp
  clear hr
  go_wp2_with fail
  refine (l3drive_any _ _ z N _ _ _ xs q at' way far _ hl (fun j hj => (HM.out j hj).2) HG.out.1 HG.out.2.1 HG.out.2.2.1 hfar (HP.out.later hb2) (HJ.out.later hb2) (HZ.out.later hb2)).mono ?_
  rintro e w2 ⟨r, hdr, _, v, rfl, _, hb3⟩
  have HDR := hide (show DriveA N xs q at' way far ⟨r.code, r.far, r.joint, r.q, r.at', r.way, []⟩ by unfold DriveA; rw [if_pos HR.out]; exact ⟨r, hdr, rfl⟩)
  have hb4 := hb2.trans (hb3.mono hb2.size)
  have HR2 := hide (HR1.out.later hb3)
  clear hdr hb3 HR1
  obtain ⟨code, rf, rj, rq, ra, rw', rps⟩ := r
  dsimp only at HDR ⊢
  obtain ⟨r0, r1, r2, r3, r4, r5, f0, f1, f2, f3, f4, f5⟩ := HR2.out
  have hz2 := cell_lt r0
  go_wp2_with fail
  exact bodyPost_ret (v := .agg #[.int .i64 code, .int .i64 rf, .int .i64 rj, .int .i64 rq, .int .i64 ra, .int .i64 rw']) (by simp [results, Try.results22, go_sem, r0, r1, r2, r3, r4, r5, hz2]) rfl ⟨⟨code, rf, rj, rq, ra, rw', []⟩, HDR.out, rfl, (below6 hb4 _ _ _ _ _ _).alloc (below6 hb4 _ _ _ _ _ _).size _⟩
end Go.Proofs.Ythlgdnkbkemcbab

/- The laws' own helpers on lists of numbers. Own work. -/
namespace Go.Proofs.Ythlgdnkbkemcbab
open Go.RowKit
set_option maxHeartbeats 2000000

theorem info_Int : (Try.prog.info? 3).map (fun i => (i.zero, i.size, i.bytes)) = some (some (.int .i64 0), 1, 8) := by kernel_rfl

theorem toIntS_any (a : Option Addr) (xs : List Int) (cap : Nat) (w : World) (hn : xs.length ≤ 1048576) (hp : IntsAt w a xs) :
    Calls Try.prog 23 #[.slice a xs.length cap] w fun e w' =>
    e = .returned (.slice (some ⟨w.heap.size, 0, none⟩) xs.length xs.length) ∧ Row w' w.heap.size 3 xs.length ∧ IntsAt w' (some ⟨w.heap.size, 0, none⟩) xs ∧ Below w.heap.size w w' := by
  have HP := hide hp
  clear hp
  have hmk := run_make_rows (P := Try.prog) 41 3 _ _ _ Try.underlying41 info_Int xs.length (by omega) (by omega)
  go_enter Try.func23, Try.ntmps23
  go_wp2
  go_loopw [4] (fun i wr => ∃ (k : Nat) (f : Nat → Value), k ≤ xs.length ∧ i = .int .i64 k ∧ wr.rowIs w.heap.size 3 xs.length f ∧ (∀ j (_ : j < k) (hj : j < xs.length), f j = .int .i64 xs[j]) ∧ Below w.heap.size w wr) (fun i _ => xs.length - (intOf i).toNat)
  case atStart =>
    obtain ⟨f, hf⟩ := rowIs_made' w #[.int .i64 0] xs.length 3
    refine ⟨0, f, Nat.zero_le _, rfl, ?_, by intro j hj; omega, (Below.refl _ _).alloc (Nat.le_refl _) _⟩
    simpa using hf
  case round =>
    obtain ⟨k, f, hk, rfl, hf, hfs, hb⟩ := hrel
    have HF := hide hf
    have HFS := hide hfs
    clear hf hfs hmk
    by_cases hlt : k < xs.length
    · obtain ⟨b, off, rfl, c0⟩ := (IntsAt.later HP.out hb) k hlt
      have d0 := HF.out.cell (i := k) hlt
      have z0 := HF.out.frozen k
      go_wp2_with fail
      refine ⟨⟨k + 1, _, by omega, by go_num, HF.out.set _ _, ?_, hb.setCell (by simp) _⟩, by simp [intOf]; omega⟩
      intro j hj hj'
      by_cases e : j = k
      · subst e; rw [if_pos rfl]
      · rw [if_neg e]; exact HFS.out j (by omega) hj'
    · go_wp2_with fail
      go_ret
      refine ⟨rfl, ⟨f, HF.out⟩, ?_, hb⟩
      intro j hj
      exact ⟨_, 0, rfl, by rw [Nat.zero_add, HF.out.cell hj, HFS.out j (by omega) hj]⟩

theorem eqIntS_same (a a' : Option Addr) (xs : List Int) (cap cap' : Nat) (w : World) (hn : xs.length ≤ 1048576) (hp : IntsAt w a xs) (hp' : IntsAt w a' xs) :
    Calls Try.prog 26 #[.slice a xs.length cap, .slice a' xs.length cap'] w fun e w' =>
    e = .returned (.bool true) ∧ Below w.heap.size w w' := by
  have HP := hide hp
  have HP' := hide hp'
  clear hp hp'
  go_enter Try.func26, Try.ntmps26
  go_wp2
  go_loopw [5] (fun i wr => ∃ (k : Nat), k ≤ xs.length ∧ i = .int .i64 k ∧ Below w.heap.size w wr) (fun i _ => xs.length - (intOf i).toNat)
  case atStart => exact ⟨0, Nat.zero_le _, rfl, Below.refl _ _⟩
  case round =>
    obtain ⟨k, hk, rfl, hb⟩ := hrel
    by_cases hlt : k < xs.length
    · obtain ⟨b, off, rfl, c0⟩ := (IntsAt.later HP.out hb) k hlt
      obtain ⟨b', off', rfl, c0'⟩ := (IntsAt.later HP'.out hb) k hlt
      have hi1 : (k : Int) < (xs.length : Int) := by omega
      go_wp2_with fail
      go_quiet (fail)
      go_wp2_with fail
      exact ⟨⟨k + 1, by omega, by go_num, below_drewN hb _⟩, by simp [intOf]; omega⟩
    · go_wp2_with fail
      go_ret
      exact ⟨rfl, hb⟩

end Go.Proofs.Ythlgdnkbkemcbab
