/- The law FnExactTouch's walk, over whatever impl.Touch answers as it should. Own work. -/
import Derived.Test.YtplnppdlabpodaaLwPt
namespace Go.Proofs.Ytplnppdlabpodaa
open Go.RowKit
set_option maxHeartbeats 2000000

theorem fnTouch_walk (hdone : TouchDone) (a a' : Option Addr) (ps qs : List Prt) (cap cap' : Nat) (w : World) (hwf : WfP ps) (hwf' : WfP qs) (hn : ps.length ≤ maxLen) (hm : qs.length ≤ maxLen) (hp : PartsAt w a ps) (hq : PartsAt w a' qs) :
    Calls Try.prog 12 #[.slice a ps.length cap, .slice a' qs.length cap'] w fun e w' => e = .returned (.bool true) ∧ Below w.heap.size w w' := by
  have HD := hide hdone
  have HP := hide hp
  have HQ := hide hq
  have HWF := hide (And.intro hwf hwf')
  clear hp hq hdone hwf hwf'
  go_enter Try.func12, Try.ntmps12
  go_wp2_with fail
  refine (szPartS_any a ps.length cap 1048576 _ hn (by omega) (by omega)).mono ?_
  rintro e w1 ⟨r, rfl, hr1, hr2, hr3, hb1⟩
  by_cases hr : r < 0
  · go_wp2_with fail
    go_ret
    exact ⟨rfl, hb1⟩
  have hn' := hr3 (by omega)
  have hrr : decide (r < 0) = false := by rw [decide_eq_false_iff_not]; exact hr
  clear hr3
  go_wp2_with fail
  refine (szPartS_any a' qs.length cap' r _ hm (by omega) (by omega)).mono ?_
  rintro e w2 ⟨r', rfl, hr1', hr2', hr3', hb2'⟩
  have hb2 := chnP hb1 hb2'
  clear hb2' hb1
  by_cases hr' : r' < 0
  · go_wp2_with fail
    go_ret
    exact ⟨rfl, hb2⟩
  have hm' := hr3' (by omega)
  have hrr' : decide (r' < 0) = false := by rw [decide_eq_false_iff_not]; exact hr'
  clear hr3'
  go_wp2_with fail
  refine (toPartS_any a ps cap _ hn' (HP.out.later hb2)).mono ?_
  rintro e w3 ⟨rfl, hP3, hb3'⟩
  have hb3 := chnP hb2 hb3'
  have HP3 := hide hP3
  clear hP3 hb3'
  go_wp2_with fail
  refine (toPartS_any a' qs cap' _ hm' (HQ.out.later hb3)).mono ?_
  rintro e w4 ⟨rfl, hP4, hb4'⟩
  have hb4 := chnP hb3 hb4'
  have HP4 := hide hP4
  have HP3 := hide (HP3.out.later hb4')
  clear hP4 hb4'
  go_wp2_with fail
  refine (specTouch_any _ _ ps qs _ _ _ hn' hm' HP3.out HP4.out).mono ?_
  rintro e w5 ⟨rfl, hb5'⟩
  have hb5 := chnP hb4 hb5'
  clear hb5' HP3 HP4
  go_wp2_with fail
  refine (toPartS_any a ps cap _ hn' (HP.out.later hb5)).mono ?_
  rintro e w6 ⟨rfl, hP6, hb6'⟩
  have hb6 := chnP hb5 hb6'
  have HP6 := hide hP6
  clear hP6 hb6'
  go_wp2_with fail
  refine (toPartS_any a' qs cap' _ hm' (HQ.out.later hb6)).mono ?_
  rintro e w7 ⟨rfl, hP7, hb7'⟩
  have hb7 := chnP hb6 hb7'
  have HP7 := hide hP7
  have HP6 := hide (HP6.out.later hb7')
  clear hP7 hb7'
  go_wp2_with fail
  refine (HD.out _ _ _ _ ps qs _ _ _ HWF.out.1 HWF.out.2 hn' hm' HP6.out HP7.out).mono ?_
  rintro e w8 ⟨rfl, hb8'⟩
  have hb8 := chnP hb7 hb8'
  have HP6 := hide (HP6.out.later hb8')
  have HP7 := hide (HP7.out.later hb8')
  clear hb8'
  have hq : (touchP ps qs != touchP ps qs) = false := by simp
  go_wp2_with fail
  refine (toPartS_any a ps cap _ hn' (HP.out.later hb8)).mono ?_
  rintro e w9 ⟨rfl, hP9, hb9'⟩
  have hb9 := chnP hb8 hb9'
  have HP9 := hide hP9
  have HP6 := hide (HP6.out.later hb9')
  have HP7 := hide (HP7.out.later hb9')
  clear hP9 hb9'
  go_wp2_with fail
  refine (eqPartS_same _ _ ps _ _ _ hn' HP6.out HP9.out).mono ?_
  rintro e w10 ⟨rfl, hb10'⟩
  have hb10 := chnP hb9 hb10'
  have HP7 := hide (HP7.out.later hb10')
  clear hb10' HP9 HP6
  go_wp2_with fail
  refine (toPartS_any a' qs cap' _ hm' (HQ.out.later hb10)).mono ?_
  rintro e w11 ⟨rfl, hP11, hb11'⟩
  have hb11 := chnP hb10 hb11'
  have HP11 := hide hP11
  have HP7 := hide (HP7.out.later hb11')
  clear hP11 hb11'
  go_wp2_with fail
  refine (eqPartS_same _ _ qs _ _ _ hm' HP7.out HP11.out).mono ?_
  rintro e w12 ⟨rfl, hb12⟩
  have hb := chnP hb11 hb12
  go_wp2_with fail
  go_ret
  exact ⟨rfl, hb⟩
end Go.Proofs.Ytplnppdlabpodaa
