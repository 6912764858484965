/- impl.SpotOk, impl.Turn. Own work. -/
import Derived.Test.YtplnppdlabpodaaSpD
import Derived.Test.YtplnppdlabpodaaMxAL
import Derived.Lib.QuietBelow
import Derived.BigQuiet
namespace Go.Proofs.Ytplnppdlabpodaa
open Go.RowKit Go.Sort
set_option maxHeartbeats 4000000

theorem inRange_b {x a b : Int} {r : Bool} (h : inR x a b = r) (w : World) : Calls Try.prog 88 #[.int .i64 x, .int .i64 a, .int .i64 b] w fun e w' =>
    e = .returned (.bool r) ∧ w = w' := (inRange_any x a b w).mono fun _ _ h' => ⟨by rw [h'.1, h], h'.2⟩
theorem inRange_q {x a b : Int} {r : Bool} (h : inR x a b = r) (w : World) (d : Nat) (os : Array Obj) : Calls Try.prog 88 #[.int .i64 x, .int .i64 a, .int .i64 b] (grow (redrawn w d) os) fun e w'' =>
    e = .returned (.bool r) ∧ ∃ p : Regrown, w'' = grow (redrawn w p.d) p.os := Calls.regrown_of ((inRange_b h _).mono fun _ _ h' => ⟨h'.1, h'.2 ▸ Below.refl _ _⟩)
theorem implNetOk_q (a a' : Option Addr) (N : Nt) (cap cap' : Nat) (w : World) {x y : Int} (hr : netOk N = (x, y)) (hn : N.pcs.length ≤ 1048576) (hs : ∀ p ∈ N.pcs, p.name.size ≤ 1048576) (hl : N.jts.length ≤ 1048576) (hm : ∀ j ∈ N.jts, j.name.size ≤ 1048576 ∧ j.ends.length ≤ 1048576) (hp : PcsAt w a N.pcs) (hj : JtsAt w a' N.jts) (d : Nat) (os : Array Obj) :
    Calls Try.prog 17 #[.agg #[.slice a N.pcs.length cap, .slice a' N.jts.length cap']] (grow (redrawn w d) os) fun e w'' =>
    e = .returned (.agg #[.int .i64 x, .int .i64 y]) ∧ ∃ p : Regrown, w'' = grow (redrawn w p.d) p.os :=
  Calls.regrown_of ((implNetOk_any a a' N cap cap' _ hn hs hl hm (hp.later (below_regrown w d os)) (hj.later (below_regrown w d os))).mono fun _ _ h' => ⟨by rw [h'.1, hr], h'.2⟩)

theorem implSpotOk_any : SpotOkDone := by
  intro a a' N cap cap' q at' way w _ hn hs hl hm hp hj
  have HS := hide hs
  have HM := hide hm
  have HP := hide hp
  have HJ := hide hj
  clear hs hm hp hj
  have hbW : Below w.heap.size w ((w.alloc (.cells #[.slice a N.pcs.length cap, .slice a' N.jts.length cap'] 33)).alloc (.cells #[.int .i64 q, .int .i64 at', .int .i64 way] 52)) := ((Below.refl _ _).alloc (Nat.le_refl _) _).alloc (by simp) _
  have hLS : LS w w ((w.alloc (.cells #[.slice a N.pcs.length cap, .slice a' N.jts.length cap'] 33)).alloc (.cells #[.int .i64 q, .int .i64 at', .int .i64 way] 52)) (.slice a N.pcs.length cap) (.slice a' N.jts.length cap') q at' way :=
    ⟨⟨by simp [go_sem], by simp [go_sem], by simp [go_sem], by simp [go_sem], by simp [go_sem]⟩, hbW⟩
  clear hbW
  go_enter Try.func31, Try.ntmps31
  go_upto_region 1 with fail
  generalize ((w.alloc (.cells #[.slice a N.pcs.length cap, .slice a' N.jts.length cap'] 33)).alloc (.cells #[.int .i64 q, .int .i64 at', .int .i64 way] 52)) = w1 at *
  obtain ⟨⟨t0, t1, e0, e1, e2⟩, hB⟩ := hLS
  have k0 := cell_regrown t0
  have k1 := cell_regrown t1
  have k2 := cell_regrown e0
  have k3 := cell_regrown e1
  have k4 := cell_regrown e2
  have HP1 := hide (HP.out.later hB.out)
  have HJ1 := hide (HJ.out.later hB.out)
  clear t0 t1 e0 e1 e2
  by_cases hr : netOk N = (0, 0)
  · have HR := hide hr
    clear hr
    cases h1 : inR q 0 ((N.pcs.length : Int) - 1)
    · have H1 := hide h1
      clear h1
      refine wp_region_quiet_below (by kernel_rfl) (by kernel_rfl) ?_
      repeat (go_big_quiet_step (first
        | exact implNetOk_q a a' N _ _ _ HR.out hn HS.out hl HM.out HP1.out HJ1.out _ _
        | with_reducible exact inRange_q H1.out _ _ _))
      refine wpQuiet_nil ?_
      intro _ hw'
      obtain ⟨⟨dq, osq⟩, hw''⟩ := hw'
      subst hw''
      go_wp2_with fail
      go_ret
      exact ⟨ret_b (by simp [spotOkP, spotP, H1.out]), hB.out.trans ((below_regrown w1 dq osq).mono hB.out.size)⟩
    · have H1 := hide h1
      have hq : 0 ≤ q ∧ q < (N.pcs.length : Int) := by simp [inR] at h1; omega
      clear h1
      obtain ⟨k, rfl⟩ := Int.eq_ofNat_of_zero_le hq.1
      have hk : k < N.pcs.length := by omega
      have hki : (k : Int) < (N.pcs.length : Int) := hq.2
      obtain ⟨b, off, rfl, c0, c1, c2, c3⟩ := HP1.out k hk
      have k5 := cell_regrown c1
      have HLEN := hide (show lenAt N (k : Int) = N.pcs[k].len by simp [lenAt, hk])
      clear c0 c1 c2 c3 hq
      cases h2 : inR at' 0 N.pcs[k].len
      · have H2 := hide h2
        clear h2
        refine wp_region_quiet_below (by kernel_rfl) (by kernel_rfl) ?_
        repeat (go_big_quiet_step (first
          | exact implNetOk_q _ a' N _ _ _ HR.out hn HS.out hl HM.out HP1.out HJ1.out _ _
          | with_reducible exact inRange_q H1.out _ _ _
          | with_reducible exact inRange_q H2.out _ _ _))
        refine wpQuiet_nil ?_
        intro _ hw'
        obtain ⟨⟨dq, osq⟩, hw''⟩ := hw'
        subst hw''
        go_wp2_with fail
        go_ret
        exact ⟨ret_b (by simp [spotOkP, spotP, H1.out, HLEN.out, H2.out]), hB.out.trans ((below_regrown w1 dq osq).mono hB.out.size)⟩
      · have H2 := hide h2
        clear h2
        by_cases hw1 : way = 1
        · subst hw1
          refine wp_region_quiet_below (by kernel_rfl) (by kernel_rfl) ?_
          repeat (go_big_quiet_step (first
            | exact implNetOk_q _ a' N _ _ _ HR.out hn HS.out hl HM.out HP1.out HJ1.out _ _
            | with_reducible exact inRange_q H1.out _ _ _
            | with_reducible exact inRange_q H2.out _ _ _))
          refine wpQuiet_nil ?_
          intro _ hw'
          obtain ⟨⟨dq, osq⟩, hw''⟩ := hw'
          subst hw''
          go_wp2_with fail
          go_ret
          exact ⟨ret_b (by simp [spotOkP, spotP, HR.out, H1.out, HLEN.out, H2.out]), hB.out.trans ((below_regrown w1 dq osq).mono hB.out.size)⟩
        · have q1 : (way == 1) = false := by rw [beq_eq_false_iff_ne]; exact hw1
          have HQ1 := hide q1
          generalize hv : (way == -1) = v2
          have HV := hide hv
          clear hw1
          refine wp_region_quiet_below (by kernel_rfl) (by kernel_rfl) ?_
          repeat (go_big_quiet_step (first
            | exact implNetOk_q _ a' N _ _ _ HR.out hn HS.out hl HM.out HP1.out HJ1.out _ _
            | with_reducible exact inRange_q H1.out _ _ _
            | with_reducible exact inRange_q H2.out _ _ _))
          refine wpQuiet_nil ?_
          intro _ hw'
          obtain ⟨⟨dq, osq⟩, hw''⟩ := hw'
          subst hw''
          go_wp2_with fail
          go_ret
          exact ⟨ret_b (by rw [spotOkP, spotP, HR.out, H1.out, HLEN.out, H2.out, HQ1.out, HV.out]; cases v2 <;> rfl), hB.out.trans ((below_regrown w1 dq osq).mono hB.out.size)⟩
  · obtain ⟨x, y, hxy⟩ : ∃ x y, netOk N = (x, y) := ⟨_, _, rfl⟩
    have hx : (x == 0) = false := by
      have := @netOk_code N
      rw [hxy] at this
      rw [this, decide_eq_false_iff_not, ← hxy]
      exact hr
    have HR := hide hr
    have HXY := hide hxy
    clear hr hxy
    refine wp_region_quiet_below (by kernel_rfl) (by kernel_rfl) ?_
    repeat (go_big_quiet_step (first
      | exact implNetOk_q a a' N _ _ _ HXY.out hn HS.out hl HM.out HP1.out HJ1.out _ _))
    refine wpQuiet_nil ?_
    intro _ hw'
    obtain ⟨⟨dq, osq⟩, hw''⟩ := hw'
    subst hw''
    go_wp2_with fail
    go_ret
    exact ⟨ret_b (by simp [spotOkP, HR.out]), hB.out.trans ((below_regrown w1 dq osq).mono hB.out.size)⟩
end Go.Proofs.Ytplnppdlabpodaa
