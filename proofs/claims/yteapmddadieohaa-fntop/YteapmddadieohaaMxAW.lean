/- impl.SpotOk, impl.Turn. Own work. -/
import Derived.Test.YteapmddadieohaaMxAU
import Derived.Test.YteapmddadieohaaMxAS
import Derived.Lib.QuietBelow
import Derived.BigQuiet
import Derived.Test.YteapmddadieohaaCuU
namespace Go.Proofs.Yteapmddadieohaa
open Go.RowKit Go.Sort
set_option maxHeartbeats 4000000

theorem inRange_b {x a b : Int} {r : Bool} (h : inR x a b = r) (w : World) : Calls Try.prog 29 #[.int .i64 x, .int .i64 a, .int .i64 b] w fun e w' =>
    e = .returned (.bool r) ∧ w = w' := (inRange_any x a b w).mono fun _ _ h' => ⟨by rw [h'.1, h], h'.2⟩
theorem inRange_q {x a b : Int} {r : Bool} (h : inR x a b = r) (w : World) (d : Nat) (os : Array Obj) : Calls Try.prog 29 #[.int .i64 x, .int .i64 a, .int .i64 b] (grow (redrawn w d) os) fun e w'' =>
    e = .returned (.bool r) ∧ ∃ p : Regrown, w'' = grow (redrawn w p.d) p.os := Calls.regrown_of ((inRange_b h _).mono fun _ _ h' => ⟨h'.1, h'.2 ▸ Below.refl _ _⟩)
theorem implNetOk_q (a a' : Option Addr) (N : Nt) (cap cap' : Nat) (w : World) {x y : Int} (hr : netOk N = (x, y)) (hn : N.pcs.length ≤ 1048576) (hs : ∀ p ∈ N.pcs, p.name.size ≤ 1048576) (hl : N.jts.length ≤ 1048576) (hm : ∀ j ∈ N.jts, j.name.size ≤ 1048576 ∧ j.ends.length ≤ 1048576) (hp : PcsAt w a N.pcs) (hj : JtsAt w a' N.jts) (d : Nat) (os : Array Obj) :
    Calls Try.prog 40 #[.agg #[.slice a N.pcs.length cap, .slice a' N.jts.length cap']] (grow (redrawn w d) os) fun e w'' =>
    e = .returned (.agg #[.int .i64 x, .int .i64 y]) ∧ ∃ p : Regrown, w'' = grow (redrawn w p.d) p.os :=
  Calls.regrown_of ((implNetOk_any a a' N cap cap' _ hn hs hl hm (hp.later (below_regrown w d os)) (hj.later (below_regrown w d os))).mono fun _ _ h' => ⟨by rw [h'.1, hr], h'.2⟩)

theorem implSpotOk_any : SpotOkDone := by
  intro a a' N cap cap' q at' way w _ hn hs hl hm hp hj
  have HS := hide hs
  have HM := hide hm
  have HP := hide hp
  have HJ := hide hj
  clear hs hm hp hj
  have hbW : Below w.heap.size w ((w.alloc (.cells #[.slice a N.pcs.length cap, .slice a' N.jts.length cap'] 26)).alloc (.cells #[.int .i64 q, .int .i64 at', .int .i64 way] 29)) := ((Below.refl _ _).alloc (Nat.le_refl _) _).alloc (by simp) _
  have hLS : LS w w ((w.alloc (.cells #[.slice a N.pcs.length cap, .slice a' N.jts.length cap'] 26)).alloc (.cells #[.int .i64 q, .int .i64 at', .int .i64 way] 29)) (.slice a N.pcs.length cap) (.slice a' N.jts.length cap') q at' way :=
    ⟨⟨by simp [go_sem], by simp [go_sem], by simp [go_sem], by simp [go_sem], by simp [go_sem]⟩, hbW⟩
  clear hbW
  go_enter Try.func24, Try.ntmps24
  go_upto_region 1 with fail
  generalize ((w.alloc (.cells #[.slice a N.pcs.length cap, .slice a' N.jts.length cap'] 26)).alloc (.cells #[.int .i64 q, .int .i64 at', .int .i64 way] 29)) = w1 at *
  obtain ⟨⟨t0, t1, e0, e1, e2⟩, hB⟩ := hLS
  have k0 := cell_regrown t0
  have k1 := cell_regrown t1
  have k2 := cell_regrown e0
  have k3 := cell_regrown e1
  have k4 := cell_regrown e2
  have HP1 := hide (HP.out.later hB.out)
  have HJ1 := hide (HJ.out.later hB.out)
  clear t0 t1 e0 e1 e2
  by_cases hr : netOk N = (0, 0)
  · have HR := hide hr
    clear hr
    cases h1 : inR q 0 ((N.pcs.length : Int) - 1)
    · have H1 := hide h1
      clear h1
      refine wp_region_quiet_below (by kernel_rfl) (by kernel_rfl) ?_
      repeat (go_big_quiet_step (first
        | exact implNetOk_q a a' N _ _ _ HR.out hn HS.out hl HM.out HP1.out HJ1.out _ _
        | with_reducible exact inRange_q H1.out _ _ _))
      refine wpQuiet_nil ?_
      intro _ hw'
      obtain ⟨⟨dq, osq⟩, hw''⟩ := hw'
      subst hw''
      go_wp2_with fail
      go_ret
      exact ⟨ret_b (by simp [spotOkP, spotP, H1.out]), hB.out.trans ((below_regrown w1 dq osq).mono hB.out.size)⟩
    · have H1 := hide h1
      have hq : 0 ≤ q ∧ q < (N.pcs.length : Int) := by simp [inR] at h1; omega
      clear h1
      obtain ⟨k, rfl⟩ := Int.eq_ofNat_of_zero_le hq.1
      have hk : k < N.pcs.length := by omega
      have hki : (k : Int) < (N.pcs.length : Int) := hq.2
      obtain ⟨b, off, rfl, c0, c1, c2, c3⟩ := HP1.out k hk
      have k5 := cell_regrown c1
      have HLEN := hide (show lenAt N (k : Int) = N.pcs[k].len by simp [lenAt, hk])
      clear c0 c1 c2 c3 hq
      cases h2 : inR at' 0 N.pcs[k].len
      · have H2 := hide h2
        clear h2
        refine wp_region_quiet_below (by kernel_rfl) (by kernel_rfl) ?_
        repeat (go_big_quiet_step (first
          | exact implNetOk_q _ a' N _ _ _ HR.out hn HS.out hl HM.out HP1.out HJ1.out _ _
          | with_reducible exact inRange_q H1.out _ _ _
          | with_reducible exact inRange_q H2.out _ _ _))
        refine wpQuiet_nil ?_
        intro _ hw'
        obtain ⟨⟨dq, osq⟩, hw''⟩ := hw'
        subst hw''
        go_wp2_with fail
        go_ret
        exact ⟨ret_b (by simp [spotOkP, spotP, H1.out, HLEN.out, H2.out]), hB.out.trans ((below_regrown w1 dq osq).mono hB.out.size)⟩
      · have H2 := hide h2
        clear h2
        by_cases hw1 : way = 1
        · subst hw1
          refine wp_region_quiet_below (by kernel_rfl) (by kernel_rfl) ?_
          repeat (go_big_quiet_step (first
            | exact implNetOk_q _ a' N _ _ _ HR.out hn HS.out hl HM.out HP1.out HJ1.out _ _
            | with_reducible exact inRange_q H1.out _ _ _
            | with_reducible exact inRange_q H2.out _ _ _))
          refine wpQuiet_nil ?_
          intro _ hw'
          obtain ⟨⟨dq, osq⟩, hw''⟩ := hw'
          subst hw''
          go_wp2_with fail
          go_ret
          exact ⟨ret_b (by simp [spotOkP, spotP, HR.out, H1.out, HLEN.out, H2.out]), hB.out.trans ((below_regrown w1 dq osq).mono hB.out.size)⟩
        · have q1 : (way == 1) = false := by rw [beq_eq_false_iff_ne]; exact hw1
          have HQ1 := hide q1
          generalize hv : (way == -1) = v2
          have HV := hide hv
          clear hw1
          refine wp_region_quiet_below (by kernel_rfl) (by kernel_rfl) ?_
          repeat (go_big_quiet_step (first
            | exact implNetOk_q _ a' N _ _ _ HR.out hn HS.out hl HM.out HP1.out HJ1.out _ _
            | with_reducible exact inRange_q H1.out _ _ _
            | with_reducible exact inRange_q H2.out _ _ _))
          refine wpQuiet_nil ?_
          intro _ hw'
          obtain ⟨⟨dq, osq⟩, hw''⟩ := hw'
          subst hw''
          go_wp2_with fail
          go_ret
          exact ⟨ret_b (by rw [spotOkP, spotP, HR.out, H1.out, HLEN.out, H2.out, HQ1.out, HV.out]; cases v2 <;> rfl), hB.out.trans ((below_regrown w1 dq osq).mono hB.out.size)⟩
  · obtain ⟨x, y, hxy⟩ : ∃ x y, netOk N = (x, y) := ⟨_, _, rfl⟩
    have hx : (x == 0) = false := by
      have := @netOk_code N
      rw [hxy] at this
      rw [this, decide_eq_false_iff_not, ← hxy]
      exact hr
    have HR := hide hr
    have HXY := hide hxy
    clear hr hxy
    refine wp_region_quiet_below (by kernel_rfl) (by kernel_rfl) ?_
    repeat (go_big_quiet_step (first
      | exact implNetOk_q a a' N _ _ _ HXY.out hn HS.out hl HM.out HP1.out HJ1.out _ _))
    refine wpQuiet_nil ?_
    intro _ hw'
    obtain ⟨⟨dq, osq⟩, hw''⟩ := hw'
    subst hw''
    go_wp2_with fail
    go_ret
    exact ⟨ret_b (by simp [spotOkP, HR.out]), hB.out.trans ((below_regrown w1 dq osq).mono hB.out.size)⟩
end Go.Proofs.Yteapmddadieohaa

/- liesOk; a new cursor. Own work. -/
namespace Go.Proofs.Yteapmddadieohaa
open Go.RowKit
set_option maxHeartbeats 2000000

theorem lieOk_eq (j : Jt) (x : Int) : lieOk j x = inR x 0 (if j.kind = 3 then 2 else 0) := by
  unfold lieOk inR
  by_cases h : j.kind = 3
  · simp [h]
  · rw [if_neg h, Bool.eq_iff_iff]
    simp [h]
    omega

theorem liesOk_any (a' z : Option Addr) (cap' zc : Nat) (js : List Jt) (xs : List Int) (w : World) (hn : js.length ≤ 1048576) (hj : JtsAt w a' js) (hz : IntsAt w z xs) :
    Calls Try.prog 28 #[.slice a' js.length cap', .slice z xs.length zc] w fun e w' => e = .returned (.bool (liesP js xs)) ∧ Below w.heap.size w w' := by
  have HJ := hide hj
  have HZ := hide hz
  clear hj hz
  generalize hRes : liesP js xs = Res
  have HRES := hide hRes
  clear hRes
  by_cases hlen : xs.length = js.length
  · have hb : ((xs.length : Int) != (js.length : Int)) = false := by rw [hlen]; simp
    have HL := hide hlen
    have hle : js.length ≤ xs.length := by omega
    have hle2 : xs.length ≤ js.length := by omega
    clear hlen
    go_enter Try.func28, Try.ntmps28
    go_wp2_with fail
    go_loopw [5, 6, 7, 15] (fun _ _ _ i wr => ∃ (k : Nat), k ≤ js.length ∧ i = .int .i64 k ∧ Hid (∀ u (hj : u < js.length) (hx : u < xs.length), u < k → lieOk js[u] xs[u] = true) ∧ Below w.heap.size w wr) (fun _ _ _ i _ => js.length - (intOf i).toNat)
    case atStart => exact ⟨0, Nat.zero_le _, rfl, fun u hj hx hu => by omega, Below.refl _ _⟩
    case round =>
      obtain ⟨k, hk, rfl, hall, hbr⟩ := hrel
      by_cases hlt : k < js.length
      · have hkx : k < xs.length := by omega
        obtain ⟨b, off, rfl, c0⟩ := (IntsAt.later HZ.out hbr) k hkx
        obtain ⟨b2, off2, ea, ec, rfl, d0, d1, d2, _⟩ := (JtsAt.later HJ.out hbr) k hlt
        have hi : (k : Int) < (xs.length : Int) := by omega
        have hblt := cell_lt c0
        have hblt2 := cell_lt d0
        have hbA := hbr.alloc hbr.size (.cells #[.int .i64 js[k].kind, .string js[k].name, .slice ea js[k].ends.length ec] 53)
        have HLE := hide (lieOk_eq js[k] xs[k])
        have HBAD := hide (fun h => liesP_bad (js := js) (xs := xs) hlt hkx h)
        by_cases h3 : js[k].kind = 3
        · have q3 : (js[k].kind == 3) = true := by rw [beq_iff_eq]; exact h3
          have HL3 := hide (show lieOk js[k] xs[k] = inR xs[k] 0 2 by rw [HLE.out, if_pos h3])
          clear h3
          cases hr : inR xs[k] 0 2
          · have HR := hide hr
            clear hr
            go_wp2_with fail
            refine (inRange_b HR.out _).mono ?_
            rintro e w1 ⟨rfl, rfl⟩
            go_wp2_with fail
            go_ret
            exact ⟨ret_b (by rw [← HRES.out, HBAD.out (by rw [HL3.out, HR.out])]), hbA⟩
          · have HR := hide hr
            clear hr
            go_wp2_with fail
            refine (inRange_b HR.out _).mono ?_
            rintro e w1 ⟨rfl, rfl⟩
            go_wp2_with fail
            refine ⟨⟨k + 1, by omega, by go_num, ?_, hbA⟩, by simp [intOf]; omega⟩
            intro u hj hx hu
            by_cases e : u = k
            · subst e; rw [HL3.out, HR.out]
            · exact hall.out u hj hx (by omega)
        · have q3 : (js[k].kind == 3) = false := by rw [beq_eq_false_iff_ne]; exact h3
          have HL3 := hide (show lieOk js[k] xs[k] = inR xs[k] 0 0 by rw [HLE.out, if_neg h3])
          clear h3
          cases hr : inR xs[k] 0 0
          · have HR := hide hr
            clear hr
            go_wp2_with fail
            refine (inRange_b HR.out _).mono ?_
            rintro e w1 ⟨rfl, rfl⟩
            go_wp2_with fail
            go_ret
            exact ⟨ret_b (by rw [← HRES.out, HBAD.out (by rw [HL3.out, HR.out])]), hbA⟩
          · have HR := hide hr
            clear hr
            go_wp2_with fail
            refine (inRange_b HR.out _).mono ?_
            rintro e w1 ⟨rfl, rfl⟩
            go_wp2_with fail
            refine ⟨⟨k + 1, by omega, by go_num, ?_, hbA⟩, by simp [intOf]; omega⟩
            intro u hj hx hu
            by_cases e : u = k
            · subst e; rw [HL3.out, HR.out]
            · exact hall.out u hj hx (by omega)
      · have HG := hide (liesP_good HL.out (fun u hj hx => hall.out u hj hx (by omega)))
        go_wp2_with fail
        go_ret
        exact ⟨ret_b (by rw [← HRES.out, HG.out]), hbr⟩
  · have hb : ((xs.length : Int) != (js.length : Int)) = true := by rw [bne_iff_ne]; omega
    have HB := hide (show liesP js xs = false by simp [liesP, hlen])
    clear hlen
    go_enter Try.func28, Try.ntmps28
    go_wp2_with fail
    go_ret
    exact ⟨ret_b (by rw [← HRES.out, HB.out]), Below.refl _ _⟩

/-- The cells of a new cursor that holds nothing yet. -/
abbrev zero9 : Array Value := #[.int .i64 0, .int .i64 0, .int .i64 0, .slice none 0 0, .slice none 0 0, .slice none 0 0, .map none, .int .i64 0, .slice none 0 0]
abbrev Zero9 (w : World) (b : Nat) : Prop := (w.cell? ⟨b, 0, none⟩ = some (.int .i64 0) ∧ w.cell? ⟨b, 1, none⟩ = some (.int .i64 0) ∧ w.cell? ⟨b, 2, none⟩ = some (.int .i64 0) ∧ w.cell? ⟨b, 3, none⟩ = some (.slice none 0 0) ∧ w.cell? ⟨b, 4, none⟩ = some (.slice none 0 0) ∧ w.cell? ⟨b, 5, none⟩ = some (.slice none 0 0) ∧ w.cell? ⟨b, 6, none⟩ = some (.map none) ∧ w.cell? ⟨b, 7, none⟩ = some (.int .i64 0) ∧ w.cell? ⟨b, 8, none⟩ = some (.slice none 0 0)) ∧
  (w.frozen? ⟨b, 0, none⟩ = false ∧ w.frozen? ⟨b, 1, none⟩ = false ∧ w.frozen? ⟨b, 2, none⟩ = false ∧ w.frozen? ⟨b, 3, none⟩ = false ∧ w.frozen? ⟨b, 4, none⟩ = false ∧ w.frozen? ⟨b, 5, none⟩ = false ∧ w.frozen? ⟨b, 6, none⟩ = false ∧ w.frozen? ⟨b, 7, none⟩ = false ∧ w.frozen? ⟨b, 8, none⟩ = false)
theorem Zero9.later {w w1 : World} {T : TypeId} (hb : Below (w.alloc (.cells zero9 T)).heap.size (w.alloc (.cells zero9 T)) w1) : Zero9 w1 w.heap.size ∧ ∀ i, w1.frozen? ⟨w.heap.size, i, none⟩ = false :=
  ⟨⟨⟨box_cell hb 0 _ rfl, box_cell hb 1 _ rfl, box_cell hb 2 _ rfl, box_cell hb 3 _ rfl, box_cell hb 4 _ rfl, box_cell hb 5 _ rfl, box_cell hb 6 _ rfl, box_cell hb 7 _ rfl, box_cell hb 8 _ rfl⟩, box_frozen hb 0, box_frozen hb 1, box_frozen hb 2, box_frozen hb 3, box_frozen hb 4, box_frozen hb 5, box_frozen hb 6, box_frozen hb 7, box_frozen hb 8⟩, fun i => box_frozen hb i⟩

abbrev set9 (w : World) (b : Nat) (q a wy : Int) (sp sj sl : Value) (m : Nat) : World :=
  ((((((((w.setCell ⟨b, 0, none⟩ (.int .i64 q)).setCell ⟨b, 1, none⟩ (.int .i64 a)).setCell ⟨b, 2, none⟩ (.int .i64 wy)).setCell ⟨b, 3, none⟩ sp).setCell ⟨b, 4, none⟩ sj).setCell ⟨b, 5, none⟩ sl).setCell ⟨b, 6, none⟩ (.map (some m))).setCell ⟨b, 7, none⟩ (.int .i64 0)).setCell ⟨b, 8, none⟩ (.slice none 0 0)
theorem set9_below {w0 w : World} {b : Nat} {B : Nat} (h : Below B w0 w) (hB : B ≤ b) (q a wy : Int) (sp sj sl : Value) (m : Nat) : Below B w0 (set9 w b q a wy sp sj sl m) :=
  ((((((((h.setCell hB _).setCell hB _).setCell hB _).setCell hB _).setCell hB _).setCell hB _).setCell hB _).setCell hB _).setCell hB _
theorem cs_put {w : World} {b : Nat} (h : Zero9 w b) (hf : ∀ i, w.frozen? ⟨b, i, none⟩ = false) (q a wy : Int) (sp sj sl : Value) (m : Nat) : CS (set9 w b q a wy sp sj sl m) b m sp sj sl (set9 w b q a wy sp sj sl m) q a wy 0 (.slice none 0 0) [] := by
  obtain ⟨⟨h0, h1, h2, h3, h4, h5, h6, h7, h8⟩, _⟩ := h
  have hl := cell_lt h0
  exact ⟨by simp [go_sem, h0], by simp [go_sem, h1], by simp [go_sem, h2], by simp [go_sem, h3], by simp [go_sem, h4], by simp [go_sem, h5], by simp [go_sem, h6], by simp [go_sem, h7], by simp [go_sem, h8], fun i => by simp only [World.frozen?_setCell]; exact hf i, World.ownsRow_nil _ _ _ _, rfl, rfl, rfl, Nat.le_refl _, fun _ _ _ => rfl, by simpa using hl⟩
theorem cs_new (w : World) (q a wy : Int) (sp sj sl : Value) (m : Nat) (T : TypeId) : CS (w.alloc (.cells #[.int .i64 q, .int .i64 a, .int .i64 wy, sp, sj, sl, .map (some m), .int .i64 0, .slice none 0 0] T)) w.heap.size m sp sj sl (w.alloc (.cells #[.int .i64 q, .int .i64 a, .int .i64 wy, sp, sj, sl, .map (some m), .int .i64 0, .slice none 0 0] T)) q a wy 0 (.slice none 0 0) [] :=
  ⟨new_cell w _ _ 0 _ rfl, new_cell w _ _ 1 _ rfl, new_cell w _ _ 2 _ rfl, new_cell w _ _ 3 _ rfl, new_cell w _ _ 4 _ rfl, new_cell w _ _ 5 _ rfl, new_cell w _ _ 6 _ rfl, new_cell w _ _ 7 _ rfl, new_cell w _ _ 8 _ rfl, fun i => box_frozen (Below.refl _ _) i, World.ownsRow_nil _ _ _ _, rfl, rfl, rfl, Nat.le_refl _, fun _ _ _ => rfl, by simp⟩
end Go.Proofs.Yteapmddadieohaa
