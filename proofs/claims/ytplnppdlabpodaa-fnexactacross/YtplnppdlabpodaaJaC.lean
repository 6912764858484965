import Derived.Test.YtplnppdlabpodaaJaB
namespace Go.Proofs.Ytplnppdlabpodaa
open Go.RowKit
set_option maxHeartbeats 1000000

theorem implJointAt_any (a a' : Option Addr) (N : Nt) (cap cap' : Nat) (p s : Int) (w : World) (hwf : Wf2 (p, s)) (hn : N.pcs.length ≤ 1048576) (hs : ∀ p ∈ N.pcs, p.name.size ≤ 1048576) (hl : N.jts.length ≤ 1048576) (hm : ∀ j ∈ N.jts, j.name.size ≤ 1048576 ∧ j.ends.length ≤ 1048576) (hp : PcsAt w a N.pcs) (hj : JtsAt w a' N.jts) :
    Calls Try.prog 22 #[.agg #[.slice a N.pcs.length cap, .slice a' N.jts.length cap'], .agg #[.int .i64 p, .int .i64 s]] w fun e w' =>
    ∃ r, e = .returned (.int .i64 r) ∧ JA N (p, s) r ∧ Below w.heap.size w w' := by
  have HP := hide hp
  have HJ := hide hj
  have HM := hide hm
  have HS := hide hs
  clear hp hj hm hs
  go_enter Try.func22, Try.ntmps22
  go_wp2_with fail
  have hbW : Below w.heap.size w ((w.alloc (.cells #[.slice a N.pcs.length cap, .slice a' N.jts.length cap'] 33)).alloc (.cells #[.int .i64 p, .int .i64 s] 41)) := ((Below.refl _ _).alloc (Nat.le_refl _) _).alloc (by simp) _
  refine (seatOf_any a a' N cap cap' p s _ hwf hn HS.out hl HM.out (HP.out.later hbW) (HJ.out.later hbW)).mono ?_
  rintro e w1 ⟨x, y, z, ok, rfl, hSI, hb1⟩
  have hb2 := hbW.trans (hb1.mono hbW.size)
  have HSI := hide hSI
  clear hSI
  cases ok
  · go_wp2_with fail
    go_ret
    exact ⟨-1, rfl, Or.inr ⟨HSI.out.2 rfl, rfl⟩, hb2.alloc hb2.size _⟩
  · go_wp2_with fail
    go_ret
    obtain ⟨hr, j, i, h1, _, hat⟩ := HSI.out.1 rfl
    exact ⟨x, rfl, Or.inl ⟨j, i, hr, hat, h1⟩, hb2.alloc hb2.size _⟩
end Go.Proofs.Ytplnppdlabpodaa
