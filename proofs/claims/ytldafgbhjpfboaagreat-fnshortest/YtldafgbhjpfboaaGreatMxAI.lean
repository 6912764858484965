import Derived.Test.YtldafgbhjpfboaaGreatTo
import Derived.Deep.RegionWith
import Derived.Deep.RegionHeld3
import Derived.Test.YtldafgbhjpfboaaGreatMxAH
import Derived.Deep.DeepCutAuto
import Derived.Test.YtldafgbhjpfboaaGreatMxAA
import Derived.DeepKeys4
import Derived.Deep.Slices
import Derived.Deep.Strs
import Derived.Lib.SmallJoins
import Derived.ChangeSame
import Derived.ProofKit
import Derived.Test.YtldafgbhjpfboaaGreatMxAE
import Derived.Lib.QuietBelow
import Derived.BigQuiet
namespace Go.Proofs.YtldafgbhjpfboaaGreat
open Go.RowKit
set_option maxHeartbeats 400000

end Go.Proofs.YtldafgbhjpfboaaGreat

/- What the laws' walks of chapter 3 have in common. Own work. -/
namespace Go.Proofs.YtldafgbhjpfboaaGreat
open Go.RowKit
set_option maxHeartbeats 2000000

theorem chn {a b c : World} (h : Below a.heap.size a b) (k : Below b.heap.size b c) : Below a.heap.size a c := h.trans (k.mono h.size)

def Wf3 (q at' way : Int) : Prop := (Lit.int .i64 q).wf = true ∧ (Lit.int .i64 at').wf = true ∧ (Lit.int .i64 way).wf = true

/-- The law's two boxes, and what has come since. -/
abbrev LS (w w1 w' : World) (v0 v1 : Value) (q at' way : Int) : Prop :=
  (w'.cell? ⟨w.heap.size, 0, none⟩ = some v0 ∧ w'.cell? ⟨w.heap.size, 1, none⟩ = some v1 ∧ w'.cell? ⟨w.heap.size + 1, 0, none⟩ = some (.int .i64 q) ∧ w'.cell? ⟨w.heap.size + 1, 1, none⟩ = some (.int .i64 at') ∧ w'.cell? ⟨w.heap.size + 1, 2, none⟩ = some (.int .i64 way)) ∧ Hid (Below w1.heap.size w1 w')
theorem keepL {w w1 w2 w3 : World} {v0 v1 : Value} {q at' way : Int} (hb : Below w2.heap.size w2 w3) (h : LS w w1 w2 v0 v1 q at' way) : LS w w1 w3 v0 v1 q at' way :=
  ⟨⟨cell_later' hb h.1.1, cell_later' hb h.1.2.1, cell_later' hb h.1.2.2.1, cell_later' hb h.1.2.2.2.1, cell_later' hb h.1.2.2.2.2⟩, h.2.out.trans (hb.mono h.2.out.size)⟩
theorem heldB {p : Prop} {w1 w' : World} (h : p ∧ Hid (Below w1.heap.size w1 w')) : Below w1.heap.size w1 w' := h.2
/-- And a box with a net. -/
abbrev LS2 (w w1 w' : World) (v0 v1 : Value) (q at' way : Int) (b : Nat) (u0 u1 : Value) : Prop := LS w w1 w' v0 v1 q at' way ∧ w'.cell? ⟨b, 0, none⟩ = some u0 ∧ w'.cell? ⟨b, 1, none⟩ = some u1
theorem keepL2 {w w1 w2 w3 : World} {v0 v1 u0 u1 : Value} {q at' way : Int} {b : Nat} (hb : Below w2.heap.size w2 w3) (h : LS2 w w1 w2 v0 v1 q at' way b u0 u1) : LS2 w w1 w3 v0 v1 q at' way b u0 u1 :=
  ⟨keepL hb h.1, cell_later' hb h.2.1, cell_later' hb h.2.2⟩
end Go.Proofs.YtldafgbhjpfboaaGreat

/- From the reading of the arguments to how they lie in memory. Own work. -/
namespace Go.Proofs.YtldafgbhjpfboaaGreat
open Go.RowKit Go.Joins Go.Deep Go.WideShapes Go.ChangeShapes
set_option maxRecDepth 100000

theorem list_of {α : Type} {P : Nat → α → Prop} (n : Nat) (h : ∀ i, i < n → ∃ x, P i x) : ∃ l : List α, l.length = n ∧ ∀ i (hi : i < l.length), P i l[i] := by
  induction n with
  | zero => exact ⟨[], rfl, fun i hi => by simp at hi⟩
  | succ n ih =>
    obtain ⟨l, hl, hp⟩ := ih (fun i hi => h i (by omega))
    obtain ⟨x, hx⟩ := h n (by omega)
    refine ⟨l ++ [x], by simp [hl], fun i hi => ?_⟩
    by_cases e : i < l.length
    · rw [List.getElem_append_left e]; exact hp i e
    · have : i = l.length := by simp at hi; omega
      subst this
      rw [List.getElem_append_right (Nat.le_refl _)]
      simp only [Nat.sub_self, List.getElem_singleton, hl]
      exact hx

theorem cellsI : Tryz.prog.cellsOf 3 = 1 := by kernel_rfl
theorem cellsStr : Tryz.prog.cellsOf 9 = 1 := by kernel_rfl
section
variable {H : Type} {enc : TypeId × Value → H} {w : World} {spare : Nat → Bool} {held : Bool}

end
end Go.Proofs.YtldafgbhjpfboaaGreat

/- What SpotOk and Turn answer; boxes of three numbers (taken out of StB, LwS, LwT). Own work. -/
namespace Go.Proofs.YtldafgbhjpfboaaGreat
open Go.RowKit
set_option maxHeartbeats 2000000

def spotOkP (N : Nt) (q at' way : Int) : Bool := decide (netOk N = (0, 0)) && spotP N q at' way
/-- What Turn answers. -/
def turnP (N : Nt) (q at' way : Int) : Int × Int × Int := if spotOkP N q at' way then (q, at', -way) else (0, 0, 0)
theorem spotOk_way {N : Nt} {q at' way : Int} (h : spotOkP N q at' way = true) : way = 1 ∨ way = -1 := by
  simp [spotOkP, spotP] at h
  omega
/-- impl.SpotOk answers as it should. -/
def SpotOkDone : Prop := ∀ (a a' : Option Addr) (N : Nt) (cap cap' : Nat) (q at' way : Int) (w : World), Wf3 q at' way → N.pcs.length ≤ 1048576 → (∀ p ∈ N.pcs, p.name.size ≤ 1048576) → N.jts.length ≤ 1048576 → (∀ j ∈ N.jts, j.name.size ≤ 1048576 ∧ j.ends.length ≤ 1048576) → PcsAt w a N.pcs → JtsAt w a' N.jts →
    Calls Tryz.prog 20 #[.agg #[.slice a N.pcs.length cap, .slice a' N.jts.length cap'], .agg #[.int .i64 q, .int .i64 at', .int .i64 way]] w fun e w' => e = .returned (.bool (spotOkP N q at' way)) ∧ Below w.heap.size w w'
/-- impl.Turn answers as it should. -/
def TurnDone : Prop := ∀ (a a' : Option Addr) (N : Nt) (cap cap' : Nat) (q at' way : Int) (w : World), Wf3 q at' way → N.pcs.length ≤ 1048576 → (∀ p ∈ N.pcs, p.name.size ≤ 1048576) → N.jts.length ≤ 1048576 → (∀ j ∈ N.jts, j.name.size ≤ 1048576 ∧ j.ends.length ≤ 1048576) → PcsAt w a N.pcs → JtsAt w a' N.jts →
    Calls Tryz.prog 8 #[.agg #[.slice a N.pcs.length cap, .slice a' N.jts.length cap'], .agg #[.int .i64 q, .int .i64 at', .int .i64 way]] w fun e w' => e = .returned (.agg #[.int .i64 (turnP N q at' way).1, .int .i64 (turnP N q at' way).2.1, .int .i64 (turnP N q at' way).2.2]) ∧ Below w.heap.size w w'
/-- A struct of three zeros that was made, none of its cells frozen. -/
abbrev Zero3 (w : World) (b : Nat) : Prop := (w.cell? ⟨b, 0, none⟩ = some (.int .i64 0) ∧ w.cell? ⟨b, 1, none⟩ = some (.int .i64 0) ∧ w.cell? ⟨b, 2, none⟩ = some (.int .i64 0)) ∧ w.frozen? ⟨b, 0, none⟩ = false ∧ w.frozen? ⟨b, 1, none⟩ = false ∧ w.frozen? ⟨b, 2, none⟩ = false
theorem Zero3.new (w : World) (T : TypeId) : Zero3 (w.alloc (.cells #[.int .i64 0, .int .i64 0, .int .i64 0] T)) w.heap.size :=
  ⟨⟨by simp [go_sem], by simp [go_sem], by simp [go_sem]⟩, by simp [go_sem], by simp [go_sem], by simp [go_sem]⟩
theorem Zero3.later {w w' : World} {b : Nat} (h : Zero3 w b) (hb : Below w.heap.size w w') : Zero3 w' b := by
  have hl := cell_lt h.1.1
  refine ⟨⟨cell_later' hb h.1.1, cell_later' hb h.1.2.1, cell_later' hb h.1.2.2⟩, ?_, ?_, ?_⟩
  · rw [hb.frozen (p := ⟨b, 0, none⟩) hl]; exact h.2.1
  · rw [hb.frozen (p := ⟨b, 1, none⟩) hl]; exact h.2.2.1
  · rw [hb.frozen (p := ⟨b, 2, none⟩) hl]; exact h.2.2.2
/-- What lies in a box of three. -/
abbrev In3 (w : World) (b : Nat) (x y z : Int) : Prop := w.cell? ⟨b, 0, none⟩ = some (.int .i64 x) ∧ w.cell? ⟨b, 1, none⟩ = some (.int .i64 y) ∧ w.cell? ⟨b, 2, none⟩ = some (.int .i64 z)
theorem In3.later {w w' : World} {b : Nat} {x y z : Int} (h : In3 w b x y z) (hb : Below w.heap.size w w') : In3 w' b x y z := ⟨cell_later' hb h.1, cell_later' hb h.2.1, cell_later' hb h.2.2⟩
theorem In3.put {w : World} {b : Nat} (h : Zero3 w b) (x y z : Int) : In3 (((w.setCell ⟨b, 0, none⟩ (.int .i64 x)).setCell ⟨b, 1, none⟩ (.int .i64 y)).setCell ⟨b, 2, none⟩ (.int .i64 z)) b x y z := by
  obtain ⟨⟨h0, h1, h2⟩, _⟩ := h
  exact ⟨by simp [go_sem, h0], by simp [go_sem, h1], by simp [go_sem, h2]⟩
theorem keepSet {w w1 w2 : World} {v0 v1 : Value} {q at' way : Int} {b : Nat} (h : LS w w1 w2 v0 v1 q at' way) (hb : w1.heap.size ≤ b) (hz : w.heap.size + 1 < w1.heap.size) (x y z : Value) :
    LS w w1 (((w2.setCell ⟨b, 0, none⟩ x).setCell ⟨b, 1, none⟩ y).setCell ⟨b, 2, none⟩ z) v0 v1 q at' way := by
  obtain ⟨⟨h0, h1, h2, h3, h4⟩, hB⟩ := h
  have e : ∀ (W : World) (o : Nat) (v : Value) (B i : Nat) (u : Value), B < b → W.cell? ⟨B, i, none⟩ = some u → (W.setCell ⟨b, o, none⟩ v).cell? ⟨B, i, none⟩ = some u := fun W o v B i u hB hu => by
    rw [World.cell?_setCell_far W ⟨b, o, none⟩ ⟨B, i, none⟩ v (by show b ≠ B; omega)]; exact hu
  exact ⟨⟨e _ _ _ _ _ _ (by omega) (e _ _ _ _ _ _ (by omega) (e _ _ _ _ _ _ (by omega) h0)), e _ _ _ _ _ _ (by omega) (e _ _ _ _ _ _ (by omega) (e _ _ _ _ _ _ (by omega) h1)), e _ _ _ _ _ _ (by omega) (e _ _ _ _ _ _ (by omega) (e _ _ _ _ _ _ (by omega) h2)), e _ _ _ _ _ _ (by omega) (e _ _ _ _ _ _ (by omega) (e _ _ _ _ _ _ (by omega) h3)), e _ _ _ _ _ _ (by omega) (e _ _ _ _ _ _ (by omega) (e _ _ _ _ _ _ (by omega) h4))⟩, ((hB.out.setCell hb _).setCell hb _).setCell hb _⟩
theorem keepSet2 {w w1 w2 : World} {v0 v1 u0 u1 : Value} {q at' way : Int} {b c : Nat} (h : LS2 w w1 w2 v0 v1 q at' way c u0 u1) (hb : w1.heap.size ≤ b) (hz : w.heap.size + 1 < w1.heap.size) (hc : c < w1.heap.size) (x y z : Value) :
    LS2 w w1 (((w2.setCell ⟨b, 0, none⟩ x).setCell ⟨b, 1, none⟩ y).setCell ⟨b, 2, none⟩ z) v0 v1 q at' way c u0 u1 := by
  have e : ∀ (W : World) (o : Nat) (v : Value) (B i : Nat) (u : Value), B < b → W.cell? ⟨B, i, none⟩ = some u → (W.setCell ⟨b, o, none⟩ v).cell? ⟨B, i, none⟩ = some u := fun W o v B i u hB hu => by
    rw [World.cell?_setCell_far W ⟨b, o, none⟩ ⟨B, i, none⟩ v (by show b ≠ B; omega)]; exact hu
  exact ⟨keepSet h.1 hb hz x y z, e _ _ _ _ _ _ (by omega) (e _ _ _ _ _ _ (by omega) (e _ _ _ _ _ _ (by omega) h.2.1)), e _ _ _ _ _ _ (by omega) (e _ _ _ _ _ _ (by omega) (e _ _ _ _ _ _ (by omega) h.2.2))⟩
end Go.Proofs.YtldafgbhjpfboaaGreat

/- impl.SpotOk, impl.Turn. Own work. -/
namespace Go.Proofs.YtldafgbhjpfboaaGreat
open Go.RowKit Go.Sort
set_option maxHeartbeats 4000000

theorem inRange_b {x a b : Int} {r : Bool} (h : inR x a b = r) (w : World) : Calls Tryz.prog 30 #[.int .i64 x, .int .i64 a, .int .i64 b] w fun e w' =>
    e = .returned (.bool r) ∧ w = w' := (inRange_any x a b w).mono fun _ _ h' => ⟨by rw [h'.1, h], h'.2⟩
theorem inRange_q {x a b : Int} {r : Bool} (h : inR x a b = r) (w : World) (d : Nat) (os : Array Obj) : Calls Tryz.prog 30 #[.int .i64 x, .int .i64 a, .int .i64 b] (grow (redrawn w d) os) fun e w'' =>
    e = .returned (.bool r) ∧ ∃ p : Regrown, w'' = grow (redrawn w p.d) p.os := Calls.regrown_of ((inRange_b h _).mono fun _ _ h' => ⟨h'.1, h'.2 ▸ Below.refl _ _⟩)
theorem implNetOk_q (a a' : Option Addr) (N : Nt) (cap cap' : Nat) (w : World) {x y : Int} (hr : netOk N = (x, y)) (hn : N.pcs.length ≤ 1048576) (hs : ∀ p ∈ N.pcs, p.name.size ≤ 1048576) (hl : N.jts.length ≤ 1048576) (hm : ∀ j ∈ N.jts, j.name.size ≤ 1048576 ∧ j.ends.length ≤ 1048576) (hp : PcsAt w a N.pcs) (hj : JtsAt w a' N.jts) (d : Nat) (os : Array Obj) :
    Calls Tryz.prog 43 #[.agg #[.slice a N.pcs.length cap, .slice a' N.jts.length cap']] (grow (redrawn w d) os) fun e w'' =>
    e = .returned (.agg #[.int .i64 x, .int .i64 y]) ∧ ∃ p : Regrown, w'' = grow (redrawn w p.d) p.os :=
  Calls.regrown_of ((implNetOk_any a a' N cap cap' _ hn hs hl hm (hp.later (below_regrown w d os)) (hj.later (below_regrown w d os))).mono fun _ _ h' => ⟨by rw [h'.1, hr], h'.2⟩)

theorem implSpotOk_any : SpotOkDone := by
  intro a a' N cap cap' q at' way w _ hn hs hl hm hp hj
  have HS := hide hs
  have HM := hide hm
  have HP := hide hp
  have HJ := hide hj
  clear hs hm hp hj
  have hbW : Below w.heap.size w ((w.alloc (.cells #[.slice a N.pcs.length cap, .slice a' N.jts.length cap'] 26)).alloc (.cells #[.int .i64 q, .int .i64 at', .int .i64 way] 29)) := ((Below.refl _ _).alloc (Nat.le_refl _) _).alloc (by simp) _
  have hLS : LS w w ((w.alloc (.cells #[.slice a N.pcs.length cap, .slice a' N.jts.length cap'] 26)).alloc (.cells #[.int .i64 q, .int .i64 at', .int .i64 way] 29)) (.slice a N.pcs.length cap) (.slice a' N.jts.length cap') q at' way :=
    ⟨⟨by simp [go_sem], by simp [go_sem], by simp [go_sem], by simp [go_sem], by simp [go_sem]⟩, hbW⟩
  clear hbW
  go_enter Tryz.func20, Tryz.ntmps20
  go_upto_region 1 with fail
  generalize ((w.alloc (.cells #[.slice a N.pcs.length cap, .slice a' N.jts.length cap'] 26)).alloc (.cells #[.int .i64 q, .int .i64 at', .int .i64 way] 29)) = w1 at *
  obtain ⟨⟨t0, t1, e0, e1, e2⟩, hB⟩ := hLS
  have k0 := cell_regrown t0
  have k1 := cell_regrown t1
  have k2 := cell_regrown e0
  have k3 := cell_regrown e1
  have k4 := cell_regrown e2
  have HP1 := hide (HP.out.later hB.out)
  have HJ1 := hide (HJ.out.later hB.out)
  clear t0 t1 e0 e1 e2
  by_cases hr : netOk N = (0, 0)
  · have HR := hide hr
    clear hr
    cases h1 : inR q 0 ((N.pcs.length : Int) - 1)
    · have H1 := hide h1
      clear h1
      refine wp_region_quiet_below (by kernel_rfl) (by kernel_rfl) ?_
      repeat (go_big_quiet_step (first
        | exact implNetOk_q a a' N _ _ _ HR.out hn HS.out hl HM.out HP1.out HJ1.out _ _
        | with_reducible exact inRange_q H1.out _ _ _))
      refine wpQuiet_nil ?_
      intro _ hw'
      obtain ⟨⟨dq, osq⟩, hw''⟩ := hw'
      subst hw''
      go_wp2_with fail
      go_ret
      exact ⟨ret_b (by simp [spotOkP, spotP, H1.out]), hB.out.trans ((below_regrown w1 dq osq).mono hB.out.size)⟩
    · have H1 := hide h1
      have hq : 0 ≤ q ∧ q < (N.pcs.length : Int) := by simp [inR] at h1; omega
      clear h1
      obtain ⟨k, rfl⟩ := Int.eq_ofNat_of_zero_le hq.1
      have hk : k < N.pcs.length := by omega
      have hki : (k : Int) < (N.pcs.length : Int) := hq.2
      obtain ⟨b, off, rfl, c0, c1, c2, c3⟩ := HP1.out k hk
      have k5 := cell_regrown c1
      have HLEN := hide (show lenAt N (k : Int) = N.pcs[k].len by simp [lenAt, hk])
      clear c0 c1 c2 c3 hq
      cases h2 : inR at' 0 N.pcs[k].len
      · have H2 := hide h2
        clear h2
        refine wp_region_quiet_below (by kernel_rfl) (by kernel_rfl) ?_
        repeat (go_big_quiet_step (first
          | exact implNetOk_q _ a' N _ _ _ HR.out hn HS.out hl HM.out HP1.out HJ1.out _ _
          | with_reducible exact inRange_q H1.out _ _ _
          | with_reducible exact inRange_q H2.out _ _ _))
        refine wpQuiet_nil ?_
        intro _ hw'
        obtain ⟨⟨dq, osq⟩, hw''⟩ := hw'
        subst hw''
        go_wp2_with fail
        go_ret
        exact ⟨ret_b (by simp [spotOkP, spotP, H1.out, HLEN.out, H2.out]), hB.out.trans ((below_regrown w1 dq osq).mono hB.out.size)⟩
      · have H2 := hide h2
        clear h2
        by_cases hw1 : way = 1
        · subst hw1
          refine wp_region_quiet_below (by kernel_rfl) (by kernel_rfl) ?_
          repeat (go_big_quiet_step (first
            | exact implNetOk_q _ a' N _ _ _ HR.out hn HS.out hl HM.out HP1.out HJ1.out _ _
            | with_reducible exact inRange_q H1.out _ _ _
            | with_reducible exact inRange_q H2.out _ _ _))
          refine wpQuiet_nil ?_
          intro _ hw'
          obtain ⟨⟨dq, osq⟩, hw''⟩ := hw'
          subst hw''
          go_wp2_with fail
          go_ret
          exact ⟨ret_b (by simp [spotOkP, spotP, HR.out, H1.out, HLEN.out, H2.out]), hB.out.trans ((below_regrown w1 dq osq).mono hB.out.size)⟩
        · have q1 : (way == 1) = false := by rw [beq_eq_false_iff_ne]; exact hw1
          have HQ1 := hide q1
          generalize hv : (way == -1) = v2
          have HV := hide hv
          clear hw1
          refine wp_region_quiet_below (by kernel_rfl) (by kernel_rfl) ?_
          repeat (go_big_quiet_step (first
            | exact implNetOk_q _ a' N _ _ _ HR.out hn HS.out hl HM.out HP1.out HJ1.out _ _
            | with_reducible exact inRange_q H1.out _ _ _
            | with_reducible exact inRange_q H2.out _ _ _))
          refine wpQuiet_nil ?_
          intro _ hw'
          obtain ⟨⟨dq, osq⟩, hw''⟩ := hw'
          subst hw''
          go_wp2_with fail
          go_ret
          exact ⟨ret_b (by rw [spotOkP, spotP, HR.out, H1.out, HLEN.out, H2.out, HQ1.out, HV.out]; cases v2 <;> rfl), hB.out.trans ((below_regrown w1 dq osq).mono hB.out.size)⟩
  · obtain ⟨x, y, hxy⟩ : ∃ x y, netOk N = (x, y) := ⟨_, _, rfl⟩
    have hx : (x == 0) = false := by
      have := @netOk_code N
      rw [hxy] at this
      rw [this, decide_eq_false_iff_not, ← hxy]
      exact hr
    have HR := hide hr
    have HXY := hide hxy
    clear hr hxy
    refine wp_region_quiet_below (by kernel_rfl) (by kernel_rfl) ?_
    repeat (go_big_quiet_step (first
      | exact implNetOk_q a a' N _ _ _ HXY.out hn HS.out hl HM.out HP1.out HJ1.out _ _))
    refine wpQuiet_nil ?_
    intro _ hw'
    obtain ⟨⟨dq, osq⟩, hw''⟩ := hw'
    subst hw''
    go_wp2_with fail
    go_ret
    exact ⟨ret_b (by simp [spotOkP, HR.out]), hB.out.trans ((below_regrown w1 dq osq).mono hB.out.size)⟩
end Go.Proofs.YtldafgbhjpfboaaGreat
