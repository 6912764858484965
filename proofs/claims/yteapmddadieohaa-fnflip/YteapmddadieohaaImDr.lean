/- impl.Drive. Own work. -/
import Derived.Test.YteapmddadieohaaCuY
namespace Go.Proofs.Yteapmddadieohaa
open Go.RowKit
set_option maxHeartbeats 2000000

theorem implDrive_any : DriveDone := by
  intro a a' z N cap cap' zc xs q at' way far w hwf _ _ hn hs hl hm _ hp hj hz
  have HP := hide hp
  have HJ := hide hj
  have HZ := hide hz
  have HM := hide hm
  have HS := hide hs
  have HWF := hide hwf
  clear hp hj hz hm hs hwf
  have hbW : Below w.heap.size w (((w.alloc (.cells #[.slice a N.pcs.length cap, .slice a' N.jts.length cap'] 26)).alloc (.cells #[.int .i64 q, .int .i64 at', .int .i64 way] 29)).alloc (.cells #[.int .i64 0, .int .i64 0, .int .i64 0, .int .i64 0, .int .i64 0, .int .i64 0] 35)) := (((Below.refl _ _).alloc (Nat.le_refl _) _).alloc (by simp) _).alloc (by simp; omega) _
  have hS6 := six_new ((w.alloc (.cells #[.slice a N.pcs.length cap, .slice a' N.jts.length cap'] 26)).alloc (.cells #[.int .i64 q, .int .i64 at', .int .i64 way] 29)) 35
  rw [show ((w.alloc (.cells #[.slice a N.pcs.length cap, .slice a' N.jts.length cap'] 26)).alloc (.cells #[.int .i64 q, .int .i64 at', .int .i64 way] 29)).heap.size = w.heap.size + 1 + 1 by simp] at hS6
  go_enter Try.func10, Try.ntmps10
  go_wp2_with fail
  generalize (((w.alloc (.cells #[.slice a N.pcs.length cap, .slice a' N.jts.length cap'] 26)).alloc (.cells #[.int .i64 q, .int .i64 at', .int .i64 way] 29)).alloc (.cells #[.int .i64 0, .int .i64 0, .int .i64 0, .int .i64 0, .int .i64 0, .int .i64 0] 35)) = w1 at *
  have H6 := hide hS6
  clear hS6
  refine (drive_any a a' z N cap cap' zc xs q at' way far _ HWF.out hn HS.out hl HM.out (HP.out.later hbW) (HJ.out.later hbW) (HZ.out.later hbW)).mono ?_
  rintro e w2 ⟨⟨cd, f, jn, q2, a2, y2, ps2⟩, v, hDA, _, rfl, _, hb2⟩
  have HDA := hide hDA
  have HB2 := hide (hbW.trans (hb2.mono hbW.size))
  obtain ⟨r0, r1, r2, r3, r4, r5, g0, g1, g2, g3, g4, g5⟩ := H6.out.later hb2
  have hlt := cell_lt r0
  clear hDA hb2 hbW
  dsimp only
  go_wp2_with fail
  refine bodyPost_ret (v := .agg #[.int .i64 cd, .int .i64 f, .int .i64 jn, .int .i64 q2, .int .i64 a2, .int .i64 y2]) (by simp [results, Try.results10, go_sem, r0, r1, r2, r3, r4, r5, hlt]) rfl ?_
  have h6 := below6 HB2.out (.int .i64 cd) (.int .i64 f) (.int .i64 jn) (.int .i64 q2) (.int .i64 a2) (.int .i64 y2)
  exact ⟨⟨cd, f, jn, q2, a2, y2, []⟩, HDA.out, rfl, h6.alloc h6.size _⟩
end Go.Proofs.Yteapmddadieohaa
