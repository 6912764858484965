/- What SpotOk and Turn answer; boxes of three numbers (taken out of StB, LwS, LwT). Own work. -/
import Derived.Test.YtcodpnkfpmjleaaGreatDoorMxAG
import Derived.Test.YtcodpnkfpmjleaaGreatDoorMxAM
import Derived.Test.YtcodpnkfpmjleaaGreatDoorMxAT
import Derived.Deep.RegionHeld3
import Derived.Deep.DeepCutAuto
import Derived.Test.YtcodpnkfpmjleaaGreatDoorMxAR
import Derived.Lib.QuietBelow
import Derived.BigQuiet
import Derived.Test.YtcodpnkfpmjleaaGreatDoorDrS
namespace Go.Proofs.YtcodpnkfpmjleaaGreatDoor
open Go.RowKit
set_option maxHeartbeats 2000000

def spotOkP (N : Nt) (q at' way : Int) : Bool := decide (netOk N = (0, 0)) && spotP N q at' way
/-- What Turn answers. -/
def turnP (N : Nt) (q at' way : Int) : Int × Int × Int := if spotOkP N q at' way then (q, at', -way) else (0, 0, 0)
theorem spotOk_way {N : Nt} {q at' way : Int} (h : spotOkP N q at' way = true) : way = 1 ∨ way = -1 := by
  simp [spotOkP, spotP] at h
  omega
/-- impl.SpotOk answers as it should. -/
def SpotOkDone : Prop := ∀ (a a' : Option Addr) (N : Nt) (cap cap' : Nat) (q at' way : Int) (w : World), Wf3 q at' way → N.pcs.length ≤ 1048576 → (∀ p ∈ N.pcs, p.name.size ≤ 1048576) → N.jts.length ≤ 1048576 → (∀ j ∈ N.jts, j.name.size ≤ 1048576 ∧ j.ends.length ≤ 1048576) → PcsAt w a N.pcs → JtsAt w a' N.jts →
    Calls Tryz.prog 16 #[.agg #[.slice a N.pcs.length cap, .slice a' N.jts.length cap'], .agg #[.int .i64 q, .int .i64 at', .int .i64 way]] w fun e w' => e = .returned (.bool (spotOkP N q at' way)) ∧ Below w.heap.size w w'
/-- A struct of three zeros that was made, none of its cells frozen. -/
abbrev Zero3 (w : World) (b : Nat) : Prop := (w.cell? ⟨b, 0, none⟩ = some (.int .i64 0) ∧ w.cell? ⟨b, 1, none⟩ = some (.int .i64 0) ∧ w.cell? ⟨b, 2, none⟩ = some (.int .i64 0)) ∧ w.frozen? ⟨b, 0, none⟩ = false ∧ w.frozen? ⟨b, 1, none⟩ = false ∧ w.frozen? ⟨b, 2, none⟩ = false
theorem Zero3.new (w : World) (T : TypeId) : Zero3 (w.alloc (.cells #[.int .i64 0, .int .i64 0, .int .i64 0] T)) w.heap.size :=
  ⟨⟨by simp [go_sem], by simp [go_sem], by simp [go_sem]⟩, by simp [go_sem], by simp [go_sem], by simp [go_sem]⟩
theorem Zero3.later {w w' : World} {b : Nat} (h : Zero3 w b) (hb : Below w.heap.size w w') : Zero3 w' b := by
  have hl := cell_lt h.1.1
  refine ⟨⟨cell_later' hb h.1.1, cell_later' hb h.1.2.1, cell_later' hb h.1.2.2⟩, ?_, ?_, ?_⟩
  · rw [hb.frozen (p := ⟨b, 0, none⟩) hl]; exact h.2.1
  · rw [hb.frozen (p := ⟨b, 1, none⟩) hl]; exact h.2.2.1
  · rw [hb.frozen (p := ⟨b, 2, none⟩) hl]; exact h.2.2.2
/-- What lies in a box of three. -/
abbrev In3 (w : World) (b : Nat) (x y z : Int) : Prop := w.cell? ⟨b, 0, none⟩ = some (.int .i64 x) ∧ w.cell? ⟨b, 1, none⟩ = some (.int .i64 y) ∧ w.cell? ⟨b, 2, none⟩ = some (.int .i64 z)
theorem In3.later {w w' : World} {b : Nat} {x y z : Int} (h : In3 w b x y z) (hb : Below w.heap.size w w') : In3 w' b x y z := ⟨cell_later' hb h.1, cell_later' hb h.2.1, cell_later' hb h.2.2⟩
theorem In3.put {w : World} {b : Nat} (h : Zero3 w b) (x y z : Int) : In3 (((w.setCell ⟨b, 0, none⟩ (.int .i64 x)).setCell ⟨b, 1, none⟩ (.int .i64 y)).setCell ⟨b, 2, none⟩ (.int .i64 z)) b x y z := by
  obtain ⟨⟨h0, h1, h2⟩, _⟩ := h
  exact ⟨by simp [go_sem, h0], by simp [go_sem, h1], by simp [go_sem, h2]⟩
theorem keepSet {w w1 w2 : World} {v0 v1 : Value} {q at' way : Int} {b : Nat} (h : LS w w1 w2 v0 v1 q at' way) (hb : w1.heap.size ≤ b) (hz : w.heap.size + 1 < w1.heap.size) (x y z : Value) :
    LS w w1 (((w2.setCell ⟨b, 0, none⟩ x).setCell ⟨b, 1, none⟩ y).setCell ⟨b, 2, none⟩ z) v0 v1 q at' way := by
  obtain ⟨⟨h0, h1, h2, h3, h4⟩, hB⟩ := h
  have e : ∀ (W : World) (o : Nat) (v : Value) (B i : Nat) (u : Value), B < b → W.cell? ⟨B, i, none⟩ = some u → (W.setCell ⟨b, o, none⟩ v).cell? ⟨B, i, none⟩ = some u := fun W o v B i u hB hu => by
    rw [World.cell?_setCell_far W ⟨b, o, none⟩ ⟨B, i, none⟩ v (by show b ≠ B; omega)]; exact hu
  exact ⟨⟨e _ _ _ _ _ _ (by omega) (e _ _ _ _ _ _ (by omega) (e _ _ _ _ _ _ (by omega) h0)), e _ _ _ _ _ _ (by omega) (e _ _ _ _ _ _ (by omega) (e _ _ _ _ _ _ (by omega) h1)), e _ _ _ _ _ _ (by omega) (e _ _ _ _ _ _ (by omega) (e _ _ _ _ _ _ (by omega) h2)), e _ _ _ _ _ _ (by omega) (e _ _ _ _ _ _ (by omega) (e _ _ _ _ _ _ (by omega) h3)), e _ _ _ _ _ _ (by omega) (e _ _ _ _ _ _ (by omega) (e _ _ _ _ _ _ (by omega) h4))⟩, ((hB.out.setCell hb _).setCell hb _).setCell hb _⟩
theorem keepSet2 {w w1 w2 : World} {v0 v1 u0 u1 : Value} {q at' way : Int} {b c : Nat} (h : LS2 w w1 w2 v0 v1 q at' way c u0 u1) (hb : w1.heap.size ≤ b) (hz : w.heap.size + 1 < w1.heap.size) (hc : c < w1.heap.size) (x y z : Value) :
    LS2 w w1 (((w2.setCell ⟨b, 0, none⟩ x).setCell ⟨b, 1, none⟩ y).setCell ⟨b, 2, none⟩ z) v0 v1 q at' way c u0 u1 := by
  have e : ∀ (W : World) (o : Nat) (v : Value) (B i : Nat) (u : Value), B < b → W.cell? ⟨B, i, none⟩ = some u → (W.setCell ⟨b, o, none⟩ v).cell? ⟨B, i, none⟩ = some u := fun W o v B i u hB hu => by
    rw [World.cell?_setCell_far W ⟨b, o, none⟩ ⟨B, i, none⟩ v (by show b ≠ B; omega)]; exact hu
  exact ⟨keepSet h.1 hb hz x y z, e _ _ _ _ _ _ (by omega) (e _ _ _ _ _ _ (by omega) (e _ _ _ _ _ _ (by omega) h.2.1)), e _ _ _ _ _ _ (by omega) (e _ _ _ _ _ _ (by omega) (e _ _ _ _ _ _ (by omega) h.2.2))⟩
end Go.Proofs.YtcodpnkfpmjleaaGreatDoor

/- impl.SpotOk, impl.Turn. Own work. -/
namespace Go.Proofs.YtcodpnkfpmjleaaGreatDoor
open Go.RowKit Go.Sort
set_option maxHeartbeats 4000000

theorem inRange_b {x a b : Int} {r : Bool} (h : inR x a b = r) (w : World) : Calls Tryz.prog 48 #[.int .i64 x, .int .i64 a, .int .i64 b] w fun e w' =>
    e = .returned (.bool r) ∧ w = w' := (inRange_any x a b w).mono fun _ _ h' => ⟨by rw [h'.1, h], h'.2⟩
theorem inRange_q {x a b : Int} {r : Bool} (h : inR x a b = r) (w : World) (d : Nat) (os : Array Obj) : Calls Tryz.prog 48 #[.int .i64 x, .int .i64 a, .int .i64 b] (grow (redrawn w d) os) fun e w'' =>
    e = .returned (.bool r) ∧ ∃ p : Regrown, w'' = grow (redrawn w p.d) p.os := Calls.regrown_of ((inRange_b h _).mono fun _ _ h' => ⟨h'.1, h'.2 ▸ Below.refl _ _⟩)
theorem implNetOk_q (a a' : Option Addr) (N : Nt) (cap cap' : Nat) (w : World) {x y : Int} (hr : netOk N = (x, y)) (hn : N.pcs.length ≤ 1048576) (hs : ∀ p ∈ N.pcs, p.name.size ≤ 1048576) (hl : N.jts.length ≤ 1048576) (hm : ∀ j ∈ N.jts, j.name.size ≤ 1048576 ∧ j.ends.length ≤ 1048576) (hp : PcsAt w a N.pcs) (hj : JtsAt w a' N.jts) (d : Nat) (os : Array Obj) :
    Calls Tryz.prog 14 #[.agg #[.slice a N.pcs.length cap, .slice a' N.jts.length cap']] (grow (redrawn w d) os) fun e w'' =>
    e = .returned (.agg #[.int .i64 x, .int .i64 y]) ∧ ∃ p : Regrown, w'' = grow (redrawn w p.d) p.os :=
  Calls.regrown_of ((implNetOk_any a a' N cap cap' _ hn hs hl hm (hp.later (below_regrown w d os)) (hj.later (below_regrown w d os))).mono fun _ _ h' => ⟨by rw [h'.1, hr], h'.2⟩)

theorem implSpotOk_any : SpotOkDone := by
  intro a a' N cap cap' q at' way w _ hn hs hl hm hp hj
  have HS := hide hs
  have HM := hide hm
  have HP := hide hp
  have HJ := hide hj
  clear hs hm hp hj
  have hbW : Below w.heap.size w ((w.alloc (.cells #[.slice a N.pcs.length cap, .slice a' N.jts.length cap'] 26)).alloc (.cells #[.int .i64 q, .int .i64 at', .int .i64 way] 40)) := ((Below.refl _ _).alloc (Nat.le_refl _) _).alloc (by simp) _
  have hLS : LS w w ((w.alloc (.cells #[.slice a N.pcs.length cap, .slice a' N.jts.length cap'] 26)).alloc (.cells #[.int .i64 q, .int .i64 at', .int .i64 way] 40)) (.slice a N.pcs.length cap) (.slice a' N.jts.length cap') q at' way :=
    ⟨⟨by simp [go_sem], by simp [go_sem], by simp [go_sem], by simp [go_sem], by simp [go_sem]⟩, hbW⟩
  clear hbW
  go_enter Tryz.func16, Tryz.ntmps16
  go_upto_region 1 with fail
  generalize ((w.alloc (.cells #[.slice a N.pcs.length cap, .slice a' N.jts.length cap'] 26)).alloc (.cells #[.int .i64 q, .int .i64 at', .int .i64 way] 40)) = w1 at *
  obtain ⟨⟨t0, t1, e0, e1, e2⟩, hB⟩ := hLS
  have k0 := cell_regrown t0
  have k1 := cell_regrown t1
  have k2 := cell_regrown e0
  have k3 := cell_regrown e1
  have k4 := cell_regrown e2
  have HP1 := hide (HP.out.later hB.out)
  have HJ1 := hide (HJ.out.later hB.out)
  clear t0 t1 e0 e1 e2
  by_cases hr : netOk N = (0, 0)
  · have HR := hide hr
    clear hr
    cases h1 : inR q 0 ((N.pcs.length : Int) - 1)
    · have H1 := hide h1
      clear h1
      refine wp_region_quiet_below (by kernel_rfl) (by kernel_rfl) ?_
      repeat (go_big_quiet_step (first
        | exact implNetOk_q a a' N _ _ _ HR.out hn HS.out hl HM.out HP1.out HJ1.out _ _
        | with_reducible exact inRange_q H1.out _ _ _))
      refine wpQuiet_nil ?_
      intro _ hw'
      obtain ⟨⟨dq, osq⟩, hw''⟩ := hw'
      subst hw''
      go_wp2_with fail
      go_ret
      exact ⟨ret_b (by simp [spotOkP, spotP, H1.out]), hB.out.trans ((below_regrown w1 dq osq).mono hB.out.size)⟩
    · have H1 := hide h1
      have hq : 0 ≤ q ∧ q < (N.pcs.length : Int) := by simp [inR] at h1; omega
      clear h1
      obtain ⟨k, rfl⟩ := Int.eq_ofNat_of_zero_le hq.1
      have hk : k < N.pcs.length := by omega
      have hki : (k : Int) < (N.pcs.length : Int) := hq.2
      obtain ⟨b, off, rfl, c0, c1, c2, c3⟩ := HP1.out k hk
      have k5 := cell_regrown c1
      have HLEN := hide (show lenAt N (k : Int) = N.pcs[k].len by simp [lenAt, hk])
      clear c0 c1 c2 c3 hq
      cases h2 : inR at' 0 N.pcs[k].len
      · have H2 := hide h2
        clear h2
        refine wp_region_quiet_below (by kernel_rfl) (by kernel_rfl) ?_
        repeat (go_big_quiet_step (first
          | exact implNetOk_q _ a' N _ _ _ HR.out hn HS.out hl HM.out HP1.out HJ1.out _ _
          | with_reducible exact inRange_q H1.out _ _ _
          | with_reducible exact inRange_q H2.out _ _ _))
        refine wpQuiet_nil ?_
        intro _ hw'
        obtain ⟨⟨dq, osq⟩, hw''⟩ := hw'
        subst hw''
        go_wp2_with fail
        go_ret
        exact ⟨ret_b (by simp [spotOkP, spotP, H1.out, HLEN.out, H2.out]), hB.out.trans ((below_regrown w1 dq osq).mono hB.out.size)⟩
      · have H2 := hide h2
        clear h2
        by_cases hw1 : way = 1
        · subst hw1
          refine wp_region_quiet_below (by kernel_rfl) (by kernel_rfl) ?_
          repeat (go_big_quiet_step (first
            | exact implNetOk_q _ a' N _ _ _ HR.out hn HS.out hl HM.out HP1.out HJ1.out _ _
            | with_reducible exact inRange_q H1.out _ _ _
            | with_reducible exact inRange_q H2.out _ _ _))
          refine wpQuiet_nil ?_
          intro _ hw'
          obtain ⟨⟨dq, osq⟩, hw''⟩ := hw'
          subst hw''
          go_wp2_with fail
          go_ret
          exact ⟨ret_b (by simp [spotOkP, spotP, HR.out, H1.out, HLEN.out, H2.out]), hB.out.trans ((below_regrown w1 dq osq).mono hB.out.size)⟩
        · have q1 : (way == 1) = false := by rw [beq_eq_false_iff_ne]; exact hw1
          have HQ1 := hide q1
          generalize hv : (way == -1) = v2
          have HV := hide hv
          clear hw1
          refine wp_region_quiet_below (by kernel_rfl) (by kernel_rfl) ?_
          repeat (go_big_quiet_step (first
            | exact implNetOk_q _ a' N _ _ _ HR.out hn HS.out hl HM.out HP1.out HJ1.out _ _
            | with_reducible exact inRange_q H1.out _ _ _
            | with_reducible exact inRange_q H2.out _ _ _))
          refine wpQuiet_nil ?_
          intro _ hw'
          obtain ⟨⟨dq, osq⟩, hw''⟩ := hw'
          subst hw''
          go_wp2_with fail
          go_ret
          exact ⟨ret_b (by rw [spotOkP, spotP, HR.out, H1.out, HLEN.out, H2.out, HQ1.out, HV.out]; cases v2 <;> rfl), hB.out.trans ((below_regrown w1 dq osq).mono hB.out.size)⟩
  · obtain ⟨x, y, hxy⟩ : ∃ x y, netOk N = (x, y) := ⟨_, _, rfl⟩
    have hx : (x == 0) = false := by
      have := @netOk_code N
      rw [hxy] at this
      rw [this, decide_eq_false_iff_not, ← hxy]
      exact hr
    have HR := hide hr
    have HXY := hide hxy
    clear hr hxy
    refine wp_region_quiet_below (by kernel_rfl) (by kernel_rfl) ?_
    repeat (go_big_quiet_step (first
      | exact implNetOk_q a a' N _ _ _ HXY.out hn HS.out hl HM.out HP1.out HJ1.out _ _))
    refine wpQuiet_nil ?_
    intro _ hw'
    obtain ⟨⟨dq, osq⟩, hw''⟩ := hw'
    subst hw''
    go_wp2_with fail
    go_ret
    exact ⟨ret_b (by simp [spotOkP, HR.out]), hB.out.trans ((below_regrown w1 dq osq).mono hB.out.size)⟩
end Go.Proofs.YtcodpnkfpmjleaaGreatDoor

/- spec.Drive, eqDriven. Own work. -/
namespace Go.Proofs.YtcodpnkfpmjleaaGreatDoor
open Go.RowKit
set_option maxHeartbeats 2000000

/-- What Drive answers. -/
def DriveA (N : Nt) (xs : List Int) (q at' way far : Int) (t : DRes) : Prop :=
  if goodP N xs q at' way far = true then ∃ r : DRes, DriveR N xs far 0 q at' way 0 [] r ∧ t = ⟨r.code, r.far, r.joint, r.q, r.at', r.way, []⟩ else t = ⟨4, 0, 0, 0, 0, 0, []⟩

theorem good_all {N : Nt} {xs : List Int} {q at' way far : Int} (h : goodP N xs q at' way far = true) : netOk N = (0, 0) ∧ liesP N.jts xs = true ∧ spotP N q at' way = true ∧ 0 ≤ far ∧ far ≤ 1000000 := by
  simp only [goodP, inR, Bool.and_eq_true, decide_eq_true_eq] at h
  exact ⟨h.1.1.1, h.1.1.2, h.1.2, h.2.1, h.2.2⟩

theorem driveA_one {N : Nt} {xs : List Int} {q at' way far : Int} {t t' : DRes} (h : DriveA N xs q at' way far t) (h' : DriveA N xs q at' way far t') : t = t' := by
  unfold DriveA at h h'
  split at h
  · rename_i hg
    rw [if_pos hg] at h'
    obtain ⟨r, hr, rfl⟩ := h
    obtain ⟨r', hr', rfl⟩ := h'
    rw [drive_one (good_all hg).1 hr hr']
  · rename_i hg
    rw [if_neg hg] at h'
    rw [h, h']

theorem below6 {w wq : World} (hb : Below w.heap.size w wq) (x0 x1 x2 x3 x4 x5 : Value) :
    Below w.heap.size w ((((((wq.setCell ⟨w.heap.size + 1 + 1, 0, none⟩ x0).setCell ⟨w.heap.size + 1 + 1, 1, none⟩ x1).setCell ⟨w.heap.size + 1 + 1, 2, none⟩ x2).setCell ⟨w.heap.size + 1 + 1, 3, none⟩ x3).setCell ⟨w.heap.size + 1 + 1, 4, none⟩ x4).setCell ⟨w.heap.size + 1 + 1, 5, none⟩ x5) := by
  have hle : w.heap.size ≤ w.heap.size + 1 + 1 := by omega
  exact (((((hb.setCell hle _).setCell hle _).setCell hle _).setCell hle _).setCell hle _).setCell hle _

end Go.Proofs.YtcodpnkfpmjleaaGreatDoor

/- A track that is not right: nothing is driven on it. Own work. -/
namespace Go.Proofs.YtcodpnkfpmjleaaGreatDoor
open Go.RowKit
set_option maxHeartbeats 4000000
set_option maxRecDepth 100000

theorem six_fresh (w : World) (T : TypeId) : Six (w.alloc (.cells #[.int .i64 0, .int .i64 0, .int .i64 0, .int .i64 0, .int .i64 0, .int .i64 0] T)) w.heap.size 0 0 0 0 0 0 :=
  ⟨by simp [go_sem], by simp [go_sem], by simp [go_sem], by simp [go_sem], by simp [go_sem], by simp [go_sem], by simp [go_sem], by simp [go_sem], by simp [go_sem], by simp [go_sem], by simp [go_sem], by simp [go_sem]⟩
section
variable (a a' : Option Addr) (N : Nt) (cap cap' : Nat) (w : World)
theorem spotOk_bad (hbad : netOk N ≠ (0, 0)) (q at' way : Int) : spotOkP N q at' way = false := by
  simp [spotOkP, hbad]
theorem drive_bad (z : Option Addr) (zl zc : Nat) (q at' way far : Int) (hwf : Wf3 q at' way) (hbad : netOk N ≠ (0, 0)) (hn : N.pcs.length ≤ 1048576) (hs : ∀ p ∈ N.pcs, p.name.size ≤ 1048576) (hl : N.jts.length ≤ 1048576) (hm : ∀ j ∈ N.jts, j.name.size ≤ 1048576 ∧ j.ends.length ≤ 1048576) (hp : PcsAt w a N.pcs) (hj : JtsAt w a' N.jts) :
    Calls Tryz.prog 49 #[.agg #[.slice a N.pcs.length cap, .slice a' N.jts.length cap'], .slice z zl zc, .agg #[.int .i64 q, .int .i64 at', .int .i64 way], .int .i64 far] w fun e w' => e = .returned (.tuple #[.agg #[.int .i64 4, .int .i64 0, .int .i64 0, .int .i64 0, .int .i64 0, .int .i64 0], .slice none 0 0]) ∧ Below w.heap.size w w' := by
  have HP := hide hp
  have HJ := hide hj
  have HM := hide hm
  have HS := hide hs
  have HWF := hide hwf
  have HBAD := hide (spotOk_bad N hbad q at' way)
  clear hp hj hm hs hwf hbad
  have hbW : Below w.heap.size w (((w.alloc (.cells #[.slice a N.pcs.length cap, .slice a' N.jts.length cap'] 26)).alloc (.cells #[.int .i64 q, .int .i64 at', .int .i64 way] 40)).alloc (.cells #[.int .i64 0, .int .i64 0, .int .i64 0, .int .i64 0, .int .i64 0, .int .i64 0] 43)) := (((Below.refl _ _).alloc (Nat.le_refl _) _).alloc (by simp) _).alloc (by simp; omega) _
  have hLS : LS w w (((w.alloc (.cells #[.slice a N.pcs.length cap, .slice a' N.jts.length cap'] 26)).alloc (.cells #[.int .i64 q, .int .i64 at', .int .i64 way] 40)).alloc (.cells #[.int .i64 0, .int .i64 0, .int .i64 0, .int .i64 0, .int .i64 0, .int .i64 0] 43)) (.slice a N.pcs.length cap) (.slice a' N.jts.length cap') q at' way :=
    ⟨⟨by simp [go_sem], by simp [go_sem], by simp [go_sem], by simp [go_sem], by simp [go_sem]⟩, hbW⟩
  have hS6 := six_fresh ((w.alloc (.cells #[.slice a N.pcs.length cap, .slice a' N.jts.length cap'] 26)).alloc (.cells #[.int .i64 q, .int .i64 at', .int .i64 way] 40)) 43
  rw [show ((w.alloc (.cells #[.slice a N.pcs.length cap, .slice a' N.jts.length cap'] 26)).alloc (.cells #[.int .i64 q, .int .i64 at', .int .i64 way] 40)).heap.size = w.heap.size + 1 + 1 by simp] at hS6
  go_enter Tryz.func49, Tryz.ntmps49
  go_upto_region 1 with fail
  generalize (((w.alloc (.cells #[.slice a N.pcs.length cap, .slice a' N.jts.length cap'] 26)).alloc (.cells #[.int .i64 q, .int .i64 at', .int .i64 way] 40)).alloc (.cells #[.int .i64 0, .int .i64 0, .int .i64 0, .int .i64 0, .int .i64 0, .int .i64 0] 43)) = w1 at *
  obtain ⟨⟨t0, t1, e0, e1, e2⟩, _⟩ := hLS
  have H6 := hide hS6
  clear hS6
  go_wp2_with fail
  refine (implSpotOk_any a a' N cap cap' q at' way _ HWF.out hn HS.out hl HM.out (HP.out.later hbW) (HJ.out.later hbW)).mono ?_
  rw [HBAD.out]
  rintro e w2 ⟨rfl, hb2⟩
  have hbW := hbW.trans (hb2.mono hbW.size)
  have H6 := hide (H6.out.later hb2)
  clear hb2
  obtain ⟨r0, r1, r2, r3, r4, r5, g0, g1, g2, g3, g4, g5⟩ := H6.out
  go_wp2_with fail
  refine bodyPost_ret (v := .tuple #[.agg #[.int .i64 4, .int .i64 0, .int .i64 0, .int .i64 0, .int .i64 0, .int .i64 0], .slice none 0 0]) (by simp [results, Tryz.results49, go_sem, r0, r1, r2, r3, r4, r5]) rfl ?_
  exact ⟨rfl, below6 hbW _ _ _ _ _ _⟩
theorem implDrive_bad (z : Option Addr) (zl zc : Nat) (q at' way far : Int) (hwf : Wf3 q at' way) (hbad : netOk N ≠ (0, 0)) (hn : N.pcs.length ≤ 1048576) (hs : ∀ p ∈ N.pcs, p.name.size ≤ 1048576) (hl : N.jts.length ≤ 1048576) (hm : ∀ j ∈ N.jts, j.name.size ≤ 1048576 ∧ j.ends.length ≤ 1048576) (hp : PcsAt w a N.pcs) (hj : JtsAt w a' N.jts) :
    Calls Tryz.prog 17 #[.agg #[.slice a N.pcs.length cap, .slice a' N.jts.length cap'], .slice z zl zc, .agg #[.int .i64 q, .int .i64 at', .int .i64 way], .int .i64 far] w fun e w' => e = .returned (.agg #[.int .i64 4, .int .i64 0, .int .i64 0, .int .i64 0, .int .i64 0, .int .i64 0]) ∧ Below w.heap.size w w' := by
  have HP := hide hp
  have HJ := hide hj
  have HM := hide hm
  have HS := hide hs
  have HWF := hide hwf
  have HBAD := hide hbad
  clear hp hj hm hs hwf hbad
  have hbW : Below w.heap.size w (((w.alloc (.cells #[.slice a N.pcs.length cap, .slice a' N.jts.length cap'] 26)).alloc (.cells #[.int .i64 q, .int .i64 at', .int .i64 way] 40)).alloc (.cells #[.int .i64 0, .int .i64 0, .int .i64 0, .int .i64 0, .int .i64 0, .int .i64 0] 43)) := (((Below.refl _ _).alloc (Nat.le_refl _) _).alloc (by simp) _).alloc (by simp; omega) _
  have hS6 := six_fresh ((w.alloc (.cells #[.slice a N.pcs.length cap, .slice a' N.jts.length cap'] 26)).alloc (.cells #[.int .i64 q, .int .i64 at', .int .i64 way] 40)) 43
  rw [show ((w.alloc (.cells #[.slice a N.pcs.length cap, .slice a' N.jts.length cap'] 26)).alloc (.cells #[.int .i64 q, .int .i64 at', .int .i64 way] 40)).heap.size = w.heap.size + 1 + 1 by simp] at hS6
  go_enter Tryz.func17, Tryz.ntmps17
  go_wp2_with fail
  generalize (((w.alloc (.cells #[.slice a N.pcs.length cap, .slice a' N.jts.length cap'] 26)).alloc (.cells #[.int .i64 q, .int .i64 at', .int .i64 way] 40)).alloc (.cells #[.int .i64 0, .int .i64 0, .int .i64 0, .int .i64 0, .int .i64 0, .int .i64 0] 43)) = w1 at *
  have H6 := hide hS6
  clear hS6
  refine (drive_bad a a' N cap cap' _ z zl zc q at' way far HWF.out HBAD.out hn HS.out hl HM.out (HP.out.later hbW) (HJ.out.later hbW)).mono ?_
  rintro e w2 ⟨rfl, hb2⟩
  have HB2 := hide (hbW.trans (hb2.mono hbW.size))
  obtain ⟨r0, r1, r2, r3, r4, r5, g0, g1, g2, g3, g4, g5⟩ := H6.out.later hb2
  have hlt := cell_lt r0
  clear hb2 hbW
  go_wp2_with fail
  refine bodyPost_ret (v := .agg #[.int .i64 4, .int .i64 0, .int .i64 0, .int .i64 0, .int .i64 0, .int .i64 0]) (by simp [results, Tryz.results17, go_sem, r0, r1, r2, r3, r4, r5, hlt]) rfl ?_
  have h6 := below6 HB2.out (.int .i64 4) (.int .i64 0) (.int .i64 0) (.int .i64 0) (.int .i64 0) (.int .i64 0)
  exact ⟨rfl, h6.alloc h6.size _⟩
theorem implShortest_bad (q at' way q' at2 way' : Int) (hwf : Wf3 q at' way) (hbad : netOk N ≠ (0, 0)) (hn : N.pcs.length ≤ 1048576) (hs : ∀ p ∈ N.pcs, p.name.size ≤ 1048576) (hl : N.jts.length ≤ 1048576) (hm : ∀ j ∈ N.jts, j.name.size ≤ 1048576 ∧ j.ends.length ≤ 1048576) (hp : PcsAt w a N.pcs) (hj : JtsAt w a' N.jts) :
    Calls Tryz.prog 18 #[.agg #[.slice a N.pcs.length cap, .slice a' N.jts.length cap'], .agg #[.int .i64 q, .int .i64 at', .int .i64 way], .agg #[.int .i64 q', .int .i64 at2, .int .i64 way']] w fun e w' => e = .returned (.agg #[.bool false, .int .i64 0, .slice none 0 0, .slice none 0 0]) ∧ Below w.heap.size w w' := by
  have HP := hide hp
  have HJ := hide hj
  have HM := hide hm
  have HS := hide hs
  have HWF := hide hwf
  have HBAD := hide (spotOk_bad N hbad q at' way)
  clear hp hj hm hs hwf hbad
  have hbW : Below w.heap.size w ((((w.alloc (.cells #[.slice a N.pcs.length cap, .slice a' N.jts.length cap'] 26)).alloc (.cells #[.int .i64 q, .int .i64 at', .int .i64 way] 40)).alloc (.cells #[.int .i64 q', .int .i64 at2, .int .i64 way'] 40)).alloc (.cells #[.bool false, .int .i64 0, .slice none 0 0, .slice none 0 0] 49)) := ((((Below.refl _ _).alloc (Nat.le_refl _) _).alloc (by simp) _).alloc (by simp; omega) _).alloc (by simp; omega) _
  have t0 : ((((w.alloc (.cells #[.slice a N.pcs.length cap, .slice a' N.jts.length cap'] 26)).alloc (.cells #[.int .i64 q, .int .i64 at', .int .i64 way] 40)).alloc (.cells #[.int .i64 q', .int .i64 at2, .int .i64 way'] 40)).alloc (.cells #[.bool false, .int .i64 0, .slice none 0 0, .slice none 0 0] 49)).cell? ⟨w.heap.size, 0, none⟩ = some (.slice a N.pcs.length cap) := by simp [go_sem]
  have t1 : ((((w.alloc (.cells #[.slice a N.pcs.length cap, .slice a' N.jts.length cap'] 26)).alloc (.cells #[.int .i64 q, .int .i64 at', .int .i64 way] 40)).alloc (.cells #[.int .i64 q', .int .i64 at2, .int .i64 way'] 40)).alloc (.cells #[.bool false, .int .i64 0, .slice none 0 0, .slice none 0 0] 49)).cell? ⟨w.heap.size, 1, none⟩ = some (.slice a' N.jts.length cap') := by simp [go_sem]
  have e0 : ((((w.alloc (.cells #[.slice a N.pcs.length cap, .slice a' N.jts.length cap'] 26)).alloc (.cells #[.int .i64 q, .int .i64 at', .int .i64 way] 40)).alloc (.cells #[.int .i64 q', .int .i64 at2, .int .i64 way'] 40)).alloc (.cells #[.bool false, .int .i64 0, .slice none 0 0, .slice none 0 0] 49)).cell? ⟨w.heap.size + 1, 0, none⟩ = some (.int .i64 q) := by simp [go_sem]
  have e1 : ((((w.alloc (.cells #[.slice a N.pcs.length cap, .slice a' N.jts.length cap'] 26)).alloc (.cells #[.int .i64 q, .int .i64 at', .int .i64 way] 40)).alloc (.cells #[.int .i64 q', .int .i64 at2, .int .i64 way'] 40)).alloc (.cells #[.bool false, .int .i64 0, .slice none 0 0, .slice none 0 0] 49)).cell? ⟨w.heap.size + 1, 1, none⟩ = some (.int .i64 at') := by simp [go_sem]
  have e2 : ((((w.alloc (.cells #[.slice a N.pcs.length cap, .slice a' N.jts.length cap'] 26)).alloc (.cells #[.int .i64 q, .int .i64 at', .int .i64 way] 40)).alloc (.cells #[.int .i64 q', .int .i64 at2, .int .i64 way'] 40)).alloc (.cells #[.bool false, .int .i64 0, .slice none 0 0, .slice none 0 0] 49)).cell? ⟨w.heap.size + 1, 2, none⟩ = some (.int .i64 way) := by simp [go_sem]
  have r0 : ((((w.alloc (.cells #[.slice a N.pcs.length cap, .slice a' N.jts.length cap'] 26)).alloc (.cells #[.int .i64 q, .int .i64 at', .int .i64 way] 40)).alloc (.cells #[.int .i64 q', .int .i64 at2, .int .i64 way'] 40)).alloc (.cells #[.bool false, .int .i64 0, .slice none 0 0, .slice none 0 0] 49)).cell? ⟨w.heap.size + 1 + 1 + 1, 0, none⟩ = some (.bool false) := by simp [go_sem]
  have r1 : ((((w.alloc (.cells #[.slice a N.pcs.length cap, .slice a' N.jts.length cap'] 26)).alloc (.cells #[.int .i64 q, .int .i64 at', .int .i64 way] 40)).alloc (.cells #[.int .i64 q', .int .i64 at2, .int .i64 way'] 40)).alloc (.cells #[.bool false, .int .i64 0, .slice none 0 0, .slice none 0 0] 49)).cell? ⟨w.heap.size + 1 + 1 + 1, 1, none⟩ = some (.int .i64 0) := by simp [go_sem]
  have r2 : ((((w.alloc (.cells #[.slice a N.pcs.length cap, .slice a' N.jts.length cap'] 26)).alloc (.cells #[.int .i64 q, .int .i64 at', .int .i64 way] 40)).alloc (.cells #[.int .i64 q', .int .i64 at2, .int .i64 way'] 40)).alloc (.cells #[.bool false, .int .i64 0, .slice none 0 0, .slice none 0 0] 49)).cell? ⟨w.heap.size + 1 + 1 + 1, 2, none⟩ = some (.slice none 0 0) := by simp [go_sem]
  have r3 : ((((w.alloc (.cells #[.slice a N.pcs.length cap, .slice a' N.jts.length cap'] 26)).alloc (.cells #[.int .i64 q, .int .i64 at', .int .i64 way] 40)).alloc (.cells #[.int .i64 q', .int .i64 at2, .int .i64 way'] 40)).alloc (.cells #[.bool false, .int .i64 0, .slice none 0 0, .slice none 0 0] 49)).cell? ⟨w.heap.size + 1 + 1 + 1, 3, none⟩ = some (.slice none 0 0) := by simp [go_sem]
  have g0 : ((((w.alloc (.cells #[.slice a N.pcs.length cap, .slice a' N.jts.length cap'] 26)).alloc (.cells #[.int .i64 q, .int .i64 at', .int .i64 way] 40)).alloc (.cells #[.int .i64 q', .int .i64 at2, .int .i64 way'] 40)).alloc (.cells #[.bool false, .int .i64 0, .slice none 0 0, .slice none 0 0] 49)).frozen? ⟨w.heap.size + 1 + 1 + 1, 0, none⟩ = false := by simp [go_sem]
  have g1 : ((((w.alloc (.cells #[.slice a N.pcs.length cap, .slice a' N.jts.length cap'] 26)).alloc (.cells #[.int .i64 q, .int .i64 at', .int .i64 way] 40)).alloc (.cells #[.int .i64 q', .int .i64 at2, .int .i64 way'] 40)).alloc (.cells #[.bool false, .int .i64 0, .slice none 0 0, .slice none 0 0] 49)).frozen? ⟨w.heap.size + 1 + 1 + 1, 1, none⟩ = false := by simp [go_sem]
  have g2 : ((((w.alloc (.cells #[.slice a N.pcs.length cap, .slice a' N.jts.length cap'] 26)).alloc (.cells #[.int .i64 q, .int .i64 at', .int .i64 way] 40)).alloc (.cells #[.int .i64 q', .int .i64 at2, .int .i64 way'] 40)).alloc (.cells #[.bool false, .int .i64 0, .slice none 0 0, .slice none 0 0] 49)).frozen? ⟨w.heap.size + 1 + 1 + 1, 2, none⟩ = false := by simp [go_sem]
  have g3 : ((((w.alloc (.cells #[.slice a N.pcs.length cap, .slice a' N.jts.length cap'] 26)).alloc (.cells #[.int .i64 q, .int .i64 at', .int .i64 way] 40)).alloc (.cells #[.int .i64 q', .int .i64 at2, .int .i64 way'] 40)).alloc (.cells #[.bool false, .int .i64 0, .slice none 0 0, .slice none 0 0] 49)).frozen? ⟨w.heap.size + 1 + 1 + 1, 3, none⟩ = false := by simp [go_sem]
  go_enter Tryz.func18, Tryz.ntmps18
  go_upto_region 1 with fail
  generalize ((((w.alloc (.cells #[.slice a N.pcs.length cap, .slice a' N.jts.length cap'] 26)).alloc (.cells #[.int .i64 q, .int .i64 at', .int .i64 way] 40)).alloc (.cells #[.int .i64 q', .int .i64 at2, .int .i64 way'] 40)).alloc (.cells #[.bool false, .int .i64 0, .slice none 0 0, .slice none 0 0] 49)) = w1 at *
  go_wp2_with fail
  refine (implSpotOk_any a a' N cap cap' q at' way _ HWF.out hn HS.out hl HM.out (HP.out.later hbW) (HJ.out.later hbW)).mono ?_
  rw [HBAD.out]
  rintro e w2 ⟨rfl, hb2⟩
  have hbW := hbW.trans (hb2.mono hbW.size)
  have g0 := frozen_later hb2 r0 g0
  have g1 := frozen_later hb2 r1 g1
  have g2 := frozen_later hb2 r2 g2
  have g3 := frozen_later hb2 r3 g3
  have r0 := cell_later' hb2 r0
  have r1 := cell_later' hb2 r1
  have r2 := cell_later' hb2 r2
  have r3 := cell_later' hb2 r3
  clear hb2 t0 t1 e0 e1 e2
  go_wp2_with fail
  refine bodyPost_ret (v := .agg #[.bool false, .int .i64 0, .slice none 0 0, .slice none 0 0]) (by simp [results, Tryz.results18, go_sem, r0, r1, r2, r3]) rfl ?_
  have hle : w.heap.size ≤ w.heap.size + 1 + 1 + 1 := by omega
  exact ⟨rfl, (((hbW.setCell hle _).setCell hle _).setCell hle _).setCell hle _⟩
theorem implLoops_bad (hbad : netOk N ≠ (0, 0)) (hn : N.pcs.length ≤ 1048576) (hs : ∀ p ∈ N.pcs, p.name.size ≤ 1048576) (hl : N.jts.length ≤ 1048576) (hm : ∀ j ∈ N.jts, j.name.size ≤ 1048576 ∧ j.ends.length ≤ 1048576) (hp : PcsAt w a N.pcs) (hj : JtsAt w a' N.jts) :
    Calls Tryz.prog 19 #[.agg #[.slice a N.pcs.length cap, .slice a' N.jts.length cap']] w fun e w' => e = .returned (.slice none 0 0) ∧ Below w.heap.size w w' := by
  have HP := hide hp
  have HJ := hide hj
  have HM := hide hm
  have HS := hide hs
  obtain ⟨x, y, hxy⟩ : ∃ x y, netOk N = (x, y) := ⟨_, _, rfl⟩
  have hx : (x == 0) = false := by
    have := @netOk_code N
    rw [hxy] at this
    rw [this, decide_eq_false_iff_not, ← hxy]
    exact hbad
  have HXY := hide hxy
  clear hp hj hm hs hbad hxy
  have hbW := (Below.refl w.heap.size w).alloc (Nat.le_refl _) (.cells #[.slice a N.pcs.length cap, .slice a' N.jts.length cap'] 26)
  have t0 := new_cell w #[.slice a N.pcs.length cap, .slice a' N.jts.length cap'] 26 0 _ rfl
  have t1 := new_cell w #[.slice a N.pcs.length cap, .slice a' N.jts.length cap'] 26 1 _ rfl
  go_enter Tryz.func19, Tryz.ntmps19
  go_wp2_with fail
  generalize w.alloc (.cells #[.slice a N.pcs.length cap, .slice a' N.jts.length cap'] 26) = w1 at *
  refine (implNetOk_any a a' N cap cap' _ hn HS.out hl HM.out (HP.out.later hbW) (HJ.out.later hbW)).mono ?_
  rw [HXY.out]
  rintro e w2 ⟨rfl, hb2⟩
  have HB2 := hide (hbW.trans (hb2.mono hbW.size))
  clear hb2 hbW
  go_wp2_with fail
  go_ret
  exact ⟨rfl, HB2.out⟩
end
end Go.Proofs.YtcodpnkfpmjleaaGreatDoor
