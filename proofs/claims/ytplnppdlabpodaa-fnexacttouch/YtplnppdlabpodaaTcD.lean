/- impl.Touch, over whatever inOrder answers as it should. Own work. -/
import Derived.Test.YtplnppdlabpodaaTcB
import Derived.Test.YtplnppdlabpodaaImP
import Derived.Lib.QuietBelow
import Derived.BigQuiet
namespace Go.Proofs.Ytplnppdlabpodaa
open Go.RowKit Go.Sort
set_option maxHeartbeats 4000000

/-- A plain address, or nil where there is nothing. -/
def PlainZ (z : Option Addr) (n : Nat) : Prop := (∃ b o, z = some ⟨b, o, none⟩) ∨ (z = none ∧ n = 0)
/-- impl.inOrder answers as it should. -/
def InOrderDone : Prop := ∀ (z : Option Addr) (ps : List Prt) (cap : Nat) (w : World), PlainZ z ps.length → ps.length ≤ 10000 → PartsAt w z ps →
    Calls Try.prog 96 #[.slice z ps.length cap] w fun e w' => ∃ (z : Option Addr) (c : Nat) (qs : List Prt), e = .returned (.slice z qs.length c) ∧ qs.length ≤ c ∧ c ≤ maxLen ∧ ps.Perm qs ∧ Sorted qs ∧ PartsAt w' z qs ∧ Below w.heap.size w w'

theorem endsAhead_q (x y : Prt) (w : World) (d : Nat) (os : Array Obj) :
    Calls Try.prog 97 #[.agg #[.int .i64 x.1, .int .i64 x.2.1, .int .i64 x.2.2], .agg #[.int .i64 y.1, .int .i64 y.2.1, .int .i64 y.2.2]] (grow (redrawn w d) os) fun e w'' => e = .returned (.bool (aheadP x y)) ∧ ∃ p : Regrown, w'' = grow (redrawn w p.d) p.os :=
  Calls.regrown_of (endsAhead_any x y _)

theorem parts_tail {w : World} {b off : Nat} {x : Prt} {l : List Prt} (h : PartsAt w (some ⟨b, off, none⟩) (x :: l)) : PartsAt w (some ⟨b, off + 3, none⟩) l := by
  intro k hk
  obtain ⟨b', off', e, c0, c1, c2⟩ := h (k + 1) (by simp; omega)
  obtain ⟨rfl, rfl⟩ : b = b' ∧ off = off' := by simpa using e
  have hh : off + (k + 1) * 3 = off + 3 + k * 3 := by omega
  rw [hh] at c0 c1 c2
  exact ⟨b, off + 3, rfl, c0, c1, c2⟩

theorem parts_if {w : World} {b off c : Nat} {l : List Prt} (h : PartsAt w (some ⟨b, off + 3, none⟩) l) (hc : l.length + 1 ≤ c) : PartsAt w (if c = 1 then some ⟨b, off, none⟩ else some ⟨b, off + 3, none⟩) l := by
  by_cases e : c = 1
  · intro k hk
    omega
  · rw [if_neg e]
    exact h

theorem Sorted.tail {x : Prt} {l : List Prt} (h : Sorted (x :: l)) : Sorted l := fun i j hi hj hij => h (i + 1) (j + 1) (by simp; omega) (by simp; omega) (by omega)

theorem cons_left {x y : Prt} {a b : List Prt} (hb : Sorted (y :: b)) (h : aheadP x y = true) : anyMeets (x :: a) (y :: b) = anyMeets a (y :: b) :=
  anyMeets_left (a := x :: a) (b := y :: b) (i := 0) (k := 0) (by simp) (by simp) hb h
theorem cons_right {x y : Prt} {a b : List Prt} (ha : Sorted (x :: a)) (h : aheadP y x = true) : anyMeets (x :: a) (y :: b) = anyMeets (x :: a) b :=
  anyMeets_right (a := x :: a) (b := y :: b) (i := 0) (k := 0) (by simp) (by simp) ha h
theorem cons_here {x y : Prt} {a b : List Prt} (h : aheadP x y = false) (h' : aheadP y x = false) : anyMeets (x :: a) (y :: b) = true :=
  anyMeets_here (a := x :: a) (b := y :: b) (i := 0) (k := 0) (by simp) (by simp) h h'

theorem implTouch_over (hio : InOrderDone) (z z' : Option Addr) (ps qs : List Prt) (cap cap' : Nat) (w : World) (hz : PlainZ z ps.length) (hz' : PlainZ z' qs.length) (hn : ps.length ≤ 1048576) (hn' : qs.length ≤ 1048576) (hp : PartsAt w z ps) (hq : PartsAt w z' qs) :
    Calls Try.prog 53 #[.slice z ps.length cap, .slice z' qs.length cap'] w fun e w' => e = .returned (.bool (touchP ps qs)) ∧ Below w.heap.size w w' := by
  have HP := hide hp
  have HQ := hide hq
  have HIO := hide hio
  have HZ := hide hz
  have HZ' := hide hz'
  clear hp hq hio hz hz'
  generalize hRes : touchP ps qs = Res
  have HRES := hide hRes
  clear hRes
  go_enter Try.func53, Try.ntmps53
  go_wp2_with fail
  refine (implPartsOk_any _ ps cap w hn HP.out).mono ?_
  rintro e w1 ⟨rfl, hb1⟩
  cases hok : partsOkP ps
  · have HR := hide (show touchP ps qs = false by simp [touchP, hok])
    clear hok
    go_wp2_with fail
    go_ret
    exact ⟨ret_b (by rw [← HRES.out, HR.out]), hb1⟩
  have HOK := hide hok
  clear hok
  go_wp2_with fail
  refine (implPartsOk_any _ qs cap' w1 hn' (HQ.out.later hb1)).mono ?_
  rintro e w2 ⟨rfl, hb2'⟩
  have hb2 := hb1.trans (hb2'.mono hb1.size)
  clear hb1 hb2'
  cases hok : partsOkP qs
  · have HR := hide (show touchP ps qs = false by simp [touchP, hok])
    clear hok
    go_wp2_with fail
    go_ret
    exact ⟨ret_b (by rw [← HRES.out, HR.out]), hb2⟩
  have HRS := hide (touchP_any ps qs HOK.out hok)
  have hl1 : ps.length ≤ 10000 := by have h := HOK.out; simp only [partsOkP, Bool.and_eq_true, decide_eq_true_eq] at h; exact h.2
  have hl2 : qs.length ≤ 10000 := by simp only [partsOkP, Bool.and_eq_true, decide_eq_true_eq] at hok; exact hok.2
  clear hok
  go_wp2_with fail
  refine (HIO.out z ps cap w2 HZ.out hl1 (HP.out.later hb2)).mono ?_
  rintro e w3 ⟨za, ca, la, rfl, hca, hcm, hpa, hsa, hza, hb3'⟩
  have hb3 := hb2.trans (hb3'.mono hb2.size)
  have HPA := hide hpa
  have HSA := hide hsa
  have HZA := hide hza
  clear hpa hsa hza hb2 hb3'
  go_wp2_with fail
  refine (HIO.out z' qs cap' w3 HZ'.out hl2 (HQ.out.later hb3)).mono ?_
  rintro e w4 ⟨zb, cb, lb, rfl, hcb, hcm', hpb, hsb, hzb, hb4'⟩
  have hb4 := hb3.trans (hb4'.mono hb3.size)
  have HANY := hide (show anyMeets la lb = Res by rw [← HRES.out, HRS.out, anyMeets_perm HPA.out hpb])
  have HSB := hide hsb
  have HZB := hide hzb
  have HZA := hide (HZA.out.later hb4')
  clear hpb hsb hzb hb3 hb4' HPA HRS
  go_wp2_with fail
  go_loopw [0, 1, 25, 35] (fun s0 s1 _ _ wr => ∃ (la lb : List Prt) (za zb : Option Addr) (ca cb : Nat), s0 = .slice za la.length ca ∧ s1 = .slice zb lb.length cb ∧ la.length ≤ ca ∧ lb.length ≤ cb ∧ ca ≤ maxLen ∧ cb ≤ maxLen ∧ Hid (PartsAt wr za la) ∧ Hid (PartsAt wr zb lb) ∧ Hid (Sorted la) ∧ Hid (Sorted lb) ∧ Hid (anyMeets la lb = Res) ∧ Below w.heap.size w wr) (fun s0 s1 _ _ _ => match s0, s1 with | .slice _ n _, .slice _ k _ => n + k | _, _ => 0)
  case atStart => exact ⟨la, lb, za, zb, ca, cb, rfl, rfl, hca, hcb, hcm, hcm', HZA.out, HZB.out, HSA.out, HSB.out, HANY.out, hb4⟩
  case round =>
    obtain ⟨la, lb, za, zb, ca, cb, rfl, rfl, hca, hcb, hcm, hcm', HZA, HZB, HSA, HSB, HANY, hb⟩ := hrel
    cases la with
    | nil =>
      have HF := hide (show Res = false by rw [← HANY.out]; rfl)
      go_wp2_with fail
      go_ret
      exact ⟨ret_b HF.out.symm, hb⟩
    | cons x la =>
      have hpa : (0 : Int) < ((x :: la).length : Int) := by simp
      cases lb with
      | nil =>
        have HF := hide (show Res = false by rw [← HANY.out, anyMeets_swap]; rfl)
        go_wp2_with fail
        go_ret
        exact ⟨ret_b HF.out.symm, hb⟩
      | cons y lb =>
        have hpb : (0 : Int) < ((y :: lb).length : Int) := by simp
        obtain ⟨ba, oa, rfl, a0, a1, a2⟩ := HZA.out 0 (by simp)
        obtain ⟨bb, ob, rfl, b0, b1, b2⟩ := HZB.out 0 (by simp)
        simp only [Nat.zero_mul, Nat.add_zero, List.getElem_cons_zero] at a0 a1 a2 b0 b1 b2
        have k0 := cell_regrown a0
        have k1 := cell_regrown a1
        have k2 := cell_regrown a2
        have k3 := cell_regrown b0
        have k4 := cell_regrown b1
        have k5 := cell_regrown b2
        obtain ⟨x0, x1, x2⟩ := x
        obtain ⟨y0, y1, y2⟩ := y
        dsimp only at k0 k1 k2 k3 k4 k5 a0 a1 a2 b0 b1 b2
        generalize hla : ((x0, x1, x2) :: la).length = na at hca hpa ⊢
        generalize hlb : ((y0, y1, y2) :: lb).length = nb at hcb hpb ⊢
        have hna : na = la.length + 1 := by rw [← hla]; simp
        have hnb : nb = lb.length + 1 := by rw [← hlb]; simp
        cases h1 : aheadP (x0, x1, x2) (y0, y1, y2)
        · have H1 := hide h1
          clear h1
          go_upto_region 6 with fail
          refine wp_region_quiet_below (by kernel_rfl) (by kernel_rfl) ?_
          repeat (go_big_quiet_step (first | exact endsAhead_q (x0, x1, x2) (y0, y1, y2) _ _ _))
          refine wpQuiet_nil ?_
          intro _ hw'
          obtain ⟨⟨dq, osq⟩, hw''⟩ := hw'
          subst hw''
          have hq := below_regrown wr dq osq
          generalize grow (redrawn wr dq) osq = w5 at hq ⊢
          rw [H1.out]
          have hb5 := hb.trans (hq.mono hb.size)
          have a0 := cell_regrown (cell_later' hq a0)
          have a1 := cell_regrown (cell_later' hq a1)
          have a2 := cell_regrown (cell_later' hq a2)
          have b0 := cell_regrown (cell_later' hq b0)
          have b1 := cell_regrown (cell_later' hq b1)
          have b2 := cell_regrown (cell_later' hq b2)
          have HZA5 := hide (HZA.out.later hq)
          have HZB5 := hide (HZB.out.later hq)
          clear k0 k1 k2 k3 k4 k5 hq
          go_upto_region 8 with fail
          refine wp_region_quiet_below (by kernel_rfl) (by kernel_rfl) ?_
          repeat (go_big_quiet_step (first | exact endsAhead_q (y0, y1, y2) (x0, x1, x2) _ _ _))
          refine wpQuiet_nil ?_
          intro _ hw'
          obtain ⟨⟨dq, osq⟩, hw''⟩ := hw'
          subst hw''
          have hq := below_regrown w5 dq osq
          generalize grow (redrawn w5 dq) osq = w6 at hq ⊢
          have hb6 := hb5.trans (hq.mono hb5.size)
          cases h2 : aheadP (y0, y1, y2) (x0, x1, x2)
          · have HF := hide (show Res = true by rw [← HANY.out]; exact cons_here H1.out h2)
            clear h2 hq
            go_wp2_with fail
            go_ret
            exact ⟨ret_b HF.out.symm, hb6⟩
          · have HN := hide (show anyMeets ((x0, x1, x2) :: la) lb = Res by rw [← HANY.out]; exact (cons_right HSA.out h2).symm)
            have HZA6 := hide (HZA5.out.later hq)
            have HZB6 := hide (parts_tail (HZB5.out.later hq))
            have HSB6 := hide HSB.out.tail
            clear h2 hq
            go_wp2_with fail
            refine ⟨⟨(x0, x1, x2) :: la, lb, _, _, _, _, by rw [hla], rfl, by rw [hla]; exact hca, by omega, hcm, by omega, HZA6.out, parts_if HZB6.out (by omega), HSA.out, HSB6.out, HN.out, hb6⟩, ?_⟩
            dsimp only
            omega
        · have HN := hide (show anyMeets la ((y0, y1, y2) :: lb) = Res by rw [← HANY.out]; exact (cons_left HSB.out h1).symm)
          have H1 := hide h1
          clear h1
          go_upto_region 6 with fail
          refine wp_region_quiet_below (by kernel_rfl) (by kernel_rfl) ?_
          repeat (go_big_quiet_step (first | exact endsAhead_q (x0, x1, x2) (y0, y1, y2) _ _ _))
          refine wpQuiet_nil ?_
          intro _ hw'
          obtain ⟨⟨dq, osq⟩, hw''⟩ := hw'
          subst hw''
          have hq := below_regrown wr dq osq
          generalize grow (redrawn wr dq) osq = w5 at hq ⊢
          rw [H1.out]
          have hb5 := hb.trans (hq.mono hb.size)
          have HZA6 := hide (parts_tail (HZA.out.later hq))
          have HZB6 := hide (HZB.out.later hq)
          have HSA6 := hide HSA.out.tail
          clear k0 k1 k2 k3 k4 k5 hq a0 a1 a2 b0 b1 b2
          go_wp2_with fail
          refine ⟨⟨la, (y0, y1, y2) :: lb, _, _, _, _, rfl, by rw [hlb], by omega, by rw [hlb]; exact hcb, by omega, hcm', parts_if HZA6.out (by omega), HZB6.out, HSA6.out, HSB.out, HN.out, hb5⟩, ?_⟩
          dsimp only
          omega
end Go.Proofs.Ytplnppdlabpodaa
