/- cross. Own work. -/
import Derived.Test.YteapmddadieohaaMxAT
import Derived.Test.YteapmddadieohaaMxAU
namespace Go.Proofs.Yteapmddadieohaa
open Go.RowKit
set_option maxHeartbeats 8000000

abbrev XS (w0 wx : World) (B m : Nat) (q a wy hx hy : Int) (sv : Value) : Prop :=
  (wx.cell? ⟨B, 0, none⟩ = some (.int .i64 q) ∧ wx.cell? ⟨B, 1, none⟩ = some (.int .i64 a) ∧ wx.cell? ⟨B, 2, none⟩ = some (.int .i64 wy) ∧ wx.cell? ⟨B, 6, none⟩ = some (.map (some m)) ∧ (Instr.lookup 66 (.map (some m)) (.agg #[.int .i64 hx, .int .i64 hy]) false).run Try.prog wx = .ok sv wx) ∧ Hid (Below w0.heap.size w0 wx)

theorem xs_of {w W : World} {B m n : Nat} {js : List Jt} {sp sj sl : Value} {w0 : World} {q a wy : Int} {ov : Nat} {u : Value} {ps : List (Int × Int × Int)} (E : Env w W B m n (seatTo js js.length)) (h : CS W B m sp sj sl w0 q a wy ov u ps) {hx hy x y z : Int} (hw : Wf2 (hx, hy)) (ht : (seatTo js js.length (hx, hy)).getD (0, 0, 0) = (x, y, z)) {wx : World} (hb : Below w0.heap.size w0 wx) :
    XS w0 wx B m q a wy hx hy (.agg #[.int .i64 x, .int .i64 y, .int .i64 z]) := by
  have h' := h.later hb
  refine ⟨⟨h'.c0, h'.c1, h'.c2, h'.c6, ?_⟩, hb⟩
  rw [(h'.seat E).look hx hy hw, ht]
  rfl
theorem keepX {w0 w2 w3 : World} {B m : Nat} {q a wy hx hy : Int} {sv : Value} (hall : ∀ wx, Below w0.heap.size w0 wx → XS w0 wx B m q a wy hx hy sv) (hb : Below w2.heap.size w2 w3) (h : XS w0 w2 B m q a wy hx hy sv) : XS w0 w3 B m q a wy hx hy sv :=
  hall w3 (h.2.out.trans (hb.mono h.2.out.size))
theorem keepX3 {w0 w2 : World} {B m : Nat} {q a wy hx hy : Int} {sv : Value} (hall : ∀ wx, Below w0.heap.size w0 wx → XS w0 wx B m q a wy hx hy sv) {b : Nat} (hb : w0.heap.size ≤ b) (h : XS w0 w2 B m q a wy hx hy sv) (x y z : Value) : XS w0 (((w2.setCell ⟨b, 0, none⟩ x).setCell ⟨b, 1, none⟩ y).setCell ⟨b, 2, none⟩ z) B m q a wy hx hy sv :=
  hall _ (((h.2.out.setCell hb _).setCell hb _).setCell hb _)

/-- What is read on the way to entry. -/
abbrev XE (w' : World) (B b6 : Nat) (sp : Value) (k : Nat) (sd : Int) : Prop := w'.cell? ⟨B, 3, none⟩ = some sp ∧ w'.cell? ⟨b6, 0, none⟩ = some (.int .i64 k) ∧ w'.cell? ⟨b6, 1, none⟩ = some (.int .i64 sd)
theorem XE.later {w1 w2 : World} {B b6 : Nat} {sp : Value} {k : Nat} {sd : Int} (h : XE w1 B b6 sp k sd) (hb : Below w1.heap.size w1 w2) : XE w2 B b6 sp k sd := ⟨cell_later' hb h.1, cell_later' hb h.2.1, cell_later' hb h.2.2⟩
theorem XE.put {w1 : World} {B b6 : Nat} {sp : Value} {k : Nat} {sd : Int} (h : XE w1 B b6 sp k sd) (hne : ¬ b6 = B) (x y z : Value) : XE (((w1.setCell ⟨B, 0, none⟩ x).setCell ⟨B, 1, none⟩ y).setCell ⟨B, 2, none⟩ z) B b6 sp k sd := by
  have e : ∀ (W : World) (o : Nat) (v : Value) (i : Nat) (u : Value), W.cell? ⟨b6, i, none⟩ = some u → (W.setCell ⟨B, o, none⟩ v).cell? ⟨b6, i, none⟩ = some u := fun W o v i u hu => by
    rw [World.cell?_setCell_far W ⟨B, o, none⟩ ⟨b6, i, none⟩ v (by show B ≠ b6; omega)]; exact hu
  refine ⟨?_, e _ _ _ _ _ (e _ _ _ _ _ (e _ _ _ _ _ h.2.1)), e _ _ _ _ _ (e _ _ _ _ _ (e _ _ _ _ _ h.2.2))⟩
  have := h.1
  simp [go_sem, this]

theorem facing_at {q a wy hx hy : Int} (hwy : wy = 1 ∨ wy = -1) (hH : headP q wy = (hx, hy)) (w : World) :
    Calls Try.prog 53 #[.agg #[.int .i64 q, .int .i64 a, .int .i64 wy]] w fun e w' => e = .returned (.agg #[.int .i64 hx, .int .i64 hy]) ∧ Below w.heap.size w w' := (facing_any q a wy w hwy).mono fun _ _ h => ⟨by rw [h.1, hH], h.2⟩
theorem kindOf_s {k : Int} (h : 1 ≤ k ∧ k ≤ 4) (w : World) : Calls Try.prog 55 #[.int .i64 k] w fun e w' => e = .returned (kindV k) ∧ w' = w := (kindOf_any k h w).mono fun _ _ h => ⟨h.1, h.2.symm⟩
theorem passing_s {k : Int} (h : 1 ≤ k ∧ k ≤ 4) (p : Value) (w : World) : Calls Try.prog 54 #[p, kindV k] w fun e w' => e = .returned (passV k p) ∧ w' = w := (passing_any k h p w).mono fun _ _ h => ⟨h.1, h.2.symm⟩

/-- What cross tells, and where the cursor is then. -/
def CrossQ (N : Nt) (xs : List Int) (W : World) (B m : Nat) (sp sj sl : Value) (q a wy : Int) (ov : Nat) (u : Value) (ps : List (Int × Int × Int)) (e : Ending) (w2 : World) : Prop :=
  ∃ (j i : Nat) (hj : j < N.jts.length) (hx : j < xs.length), At N.jts (headP q wy) j i ∧
    ((¬ (overP N.jts[j] (headP q wy) i xs[j]).2 = 0 ∧ e = .returned (.tuple #[.int .i64 (overP N.jts[j] (headP q wy) i xs[j]).2, .int .i64 j]) ∧ CS W B m sp sj sl w2 q a wy ov u ps) ∨
     ((overP N.jts[j] (headP q wy) i xs[j]).2 = 0 ∧ ov = 1000 ∧ e = .returned (.tuple #[.int .i64 5, .int .i64 j]) ∧ CS W B m sp sj sl w2 q a wy ov u ps) ∨
     ((overP N.jts[j] (headP q wy) i xs[j]).2 = 0 ∧ ¬ ov = 1000 ∧ e = .returned (.tuple #[.int .i64 0, .int .i64 j]) ∧ CS W B m sp sj sl w2 (enterP N (overP N.jts[j] (headP q wy) i xs[j]).1).1 (enterP N (overP N.jts[j] (headP q wy) i xs[j]).1).2.1 (enterP N (overP N.jts[j] (headP q wy) i xs[j]).1).2.2 (ov + 1) u ps))

theorem cross_any {w W : World} {B m n : Nat} {a a' zb : Option Addr} {N : Nt} {cap cap' zc : Nat} {xs : List Int} {w0 : World} {q a0 wy : Int} {ov : Nat} {u : Value} {ps : List (Int × Int × Int)} (E : Env w W B m n (seatTo N.jts N.jts.length)) (h : CS W B m (.slice a N.pcs.length cap) (.slice a' N.jts.length cap') (.slice zb xs.length zc) w0 q a0 wy ov u ps)
    (hright : netOk N = (0, 0)) (hlies : liesP N.jts xs = true) (hspot : spotP N q a0 wy = true) (hov : ov ≤ 1000) (hn : N.pcs.length ≤ 1048576) (hP : PcsAt w a N.pcs) (hJ : JtsAt w a' N.jts) (hZ : IntsAt w zb xs) :
    Calls Try.prog 43 #[.pointer (some ⟨B, 0, none⟩)] w0 fun e w2 => CrossQ N xs W B m (.slice a N.pcs.length cap) (.slice a' N.jts.length cap') (.slice zb xs.length zc) q a0 wy ov u ps e w2 := by
  have hwy : wy = 1 ∨ wy = -1 := by
    simp [spotP] at hspot
    omega
  have hok := headP_ok hspot
  obtain ⟨hx, hy, hH⟩ : ∃ hx hy, headP q wy = (hx, hy) := ⟨_, _, rfl⟩
  rw [hH] at hok
  have hwf := endOk_wf hn hok
  have hsi := seatIs_right hright (hx, hy)
  have hsome : (seatTo N.jts N.jts.length (hx, hy)).isSome = true := by
    cases hs : (seatTo N.jts N.jts.length (hx, hy)).isSome
    · rw [hs] at hsi
      exact absurd ⟨hright, hok⟩ (hsi.2 rfl)
    · rfl
  obtain ⟨_, j, i, hj1, hi1, hat⟩ := hsi.1 hsome
  obtain ⟨t, ht⟩ : ∃ t, (seatTo N.jts N.jts.length (hx, hy)).getD (0, 0, 0) = ((j : Int), (i : Int), t) := ⟨_, by rw [← hj1, ← hi1]⟩
  have HAT := hide hat
  obtain ⟨hjl, hil, _⟩ := hat
  have hxl : j < xs.length := by
    have := hlies
    simp [liesP] at this
    omega
  have HXS := hide (fun wx hb => xs_of E h hwf ht (wx := wx) hb)
  have HE := hide E
  have HC := hide h
  have HP := hide hP
  have HJ := hide hJ
  have HZ := hide hZ
  have HRT := hide hright
  have HLI := hide hlies
  have HH := hide hH
  clear E h hP hJ hZ hright hlies hH hwf hsi hsome hj1 hi1 ht hok hspot
  go_enter Try.func43, Try.ntmps43
  go_upto_region 1 with fail
  go_cut [4] (fun s4 wx => ∃ b4 : Nat, s4 = .pointer (some ⟨b4, 0, none⟩) ∧ In3 wx b4 j i t ∧ Below w0.heap.size w0 wx ∧ ¬ b4 = B)
  case first =>
    have hBlt := cell_lt HC.out.c0
    go_region_held3 (fun wx => XS w0 wx B m q a0 wy hx hy (.agg #[.int .i64 j, .int .i64 i, .int .i64 t]))
      (first
        | (with_reducible exact HXS.out _ ((Below.refl w0.heap.size w0).drew))
        | (with_reducible exact HSF.out)
        | (exact keepX HXS.out (by assumption) (by assumption))
        | (exact keepX HXS.out ((Below.refl _ _).alloc (Nat.le_refl _) _) (by assumption))
        | (exact keepX HXS.out ((Below.refl wF.heap.size wF).alloc (Nat.le_refl _) _) HSF.out)
        | (exact keepX3 HXS.out (by omega) HSF.out _ _ _))
      (first
        | (go_at_call 53; refine (facing_at hwy HH.out _).mono ?_; rintro e wF ⟨rfl, hbF⟩; have HSF : Hid (XS w0 wF B m q a0 wy hx hy (.agg #[.int .i64 j, .int .i64 i, .int .i64 t])) := keepX HXS.out hbF (by assumption); have sF : w0.heap.size ≤ wF.heap.size := (heldB HSF.out).size; try (have y3 : Zero3 wF w0.heap.size := Zero3.later (w := (w0.alloc (.cells #[.int .i64 0, .int .i64 0, .int .i64 0] 85)).drew) (Zero3.new w0 85) hbF)))
    all_goals
      rename_i hHS
      have hbx := heldB hHS
      go_wp2_with fail
      go_meet
      first
        | exact ⟨_, rfl, In3.put y3 j i t, hbx, by omega⟩
        | exact ⟨_, rfl, ⟨new_cell wF _ _ 0 _ rfl, new_cell wF _ _ 1 _ rfl, new_cell wF _ _ 2 _ rfl⟩, hbx, by omega⟩
  case rest =>
    obtain ⟨b4, rfl, ⟨s0, s1, s2⟩, hb1, hb4⟩ := hcut
    rename World => w1
    have HC1 := hide (HC.out.later hb1)
    have HBW := hide (HC1.out.below HE.out)
    have HJ1 := hide (HJ.out.later HBW.out)
    have HZ1 := hide (HZ.out.later HBW.out)
    obtain ⟨jb, jo, ea, ec, rfl, d0, _, _, _⟩ := HJ1.out j hjl
    have hji : (j : Int) < (N.jts.length : Int) := by omega
    have c4 := HC1.out.c4
    have hB1lt := cell_lt c4
    have hB3 : jb3 N.pcs.length N.jts[j] = false := by rw [← jtBad3_jb3 hjl]; exact (right_facts HRT.out).2.2.1 j hjl
    have HK14 := hide (jb3_len hB3).1
    have H3 := hide hB3
    obtain ⟨oe, cd, hov2⟩ : ∃ oe cd, overP N.jts[j] (hx, hy) i xs[j] = (oe, cd) := ⟨_, _, rfl⟩
    have HOV := hide hov2
    have HEOK := hide (fun h0 => overP_ok HRT.out HLI.out hjl hxl HAT.out h0)
    have HX02 := hide (show 0 ≤ xs[j] ∧ xs[j] ≤ 2 by
      have h := HLI.out
      cases hbad : lieOk N.jts[j] xs[j]
      · rw [liesP_bad hjl hxl hbad] at h
        cases h
      · simp [lieOk, inR] at hbad
        exact hbad.1)
    clear hB3 hov2 hb1 HXS
    go_upto_region 2 with fail
    go_quiet (first | (go_at_call 55; exact Calls.quiet_of_same (kindOf_s HK14.out _)) | (go_at_call 54; exact Calls.quiet_of_same (passing_s HK14.out _ _)))
    have hq := below_drewN (Below.refl w1.heap.size w1) nq
    generalize w1.drewN nq = w2 at hq ⊢
    have HC1 := hide (HC1.out.later hq)
    have HJ1 := hide (HJ1.out.later hq)
    have HZ1 := hide (HZ1.out.later hq)
    have s0 := cell_later' hq s0
    have s1 := cell_later' hq s1
    have s2 := cell_later' hq s2
    have hB1lt : B < w2.heap.size := Nat.lt_of_lt_of_le hB1lt hq.size
    clear hq c4 d0
    generalize hfv : passV N.jts[j].kind (.pointer (some ⟨B, 0, none⟩)) = fv
    have HFV := hide hfv
    clear hfv
    go_upto_region 3 with fail
    go_cut [2, 6] (fun s2 s6 wx => ∃ (e1 e2 : Int) (b6 : Nat), s2 = .int .i64 cd ∧ s6 = .pointer (some ⟨b6, 0, none⟩) ∧ (wx.cell? ⟨b6, 0, none⟩ = some (.int .i64 e1) ∧ wx.cell? ⟨b6, 1, none⟩ = some (.int .i64 e2)) ∧ (cd = 0 → oe = (e1, e2)) ∧ Below w2.heap.size w2 wx ∧ ¬ b6 = B)
    case first =>
      by_cases hkA : N.jts[j].kind = 1
      · have HKA := hide hkA
        have hpv : passV N.jts[j].kind (.pointer (some ⟨B, 0, none⟩)) = .func (.func 63) #[.pointer (some ⟨B, 0, none⟩)] #[] := by simp [passV, hkA]
        clear hkA
        obtain rfl := HFV.out.symm.trans hpv
        go_wp2_with fail
        refine (halt_pass HKA.out (hx, hy) i xs[j] _ _ _ _ _).mono ?_
        rintro e w3 ⟨e1, e2, rfl, hz, hb3⟩
        rw [HOV.out] at hz ⊢
        dsimp only at hz ⊢
        have HZZ := hide hz
        have HB3 := hide hb3
        clear hz hb3 s0 s1 s2
        go_wp2_with fail
        go_meet
        exact ⟨e1, e2, _, rfl, rfl, ⟨new_cell w3 _ _ 0 _ rfl, new_cell w3 _ _ 1 _ rfl⟩, HZZ.out, HB3.out.trans (((Below.refl w3.heap.size w3).alloc (Nat.le_refl _) _).mono HB3.out.size), by have := HB3.out.size; omega⟩
      by_cases hkC : N.jts[j].kind = 3
      · have HKC := hide hkC
        have hpv : passV N.jts[j].kind (.pointer (some ⟨B, 0, none⟩)) = .func (.func 64) #[.pointer (some ⟨B, 0, none⟩)] #[] := by simp [passV, hkC]
        clear hkC hkA
        obtain rfl := HFV.out.symm.trans hpv
        go_wp2_with fail
        refine (lies_pass B N.pcs.length (some ⟨jb, jo, none⟩) zb cap' zc N.jts xs j i t _ (hx, hy) hjl hxl HX02.out H3.out hil HKC.out HC1.out.c4 HC1.out.c5 HJ1.out HZ1.out).mono ?_
        rintro e w3 ⟨e1, e2, rfl, hz, hb3⟩
        rw [HOV.out] at hz ⊢
        dsimp only at hz ⊢
        have HZZ := hide hz
        have HB3 := hide hb3
        clear hz hb3 s0 s1 s2
        go_wp2_with fail
        go_meet
        exact ⟨e1, e2, _, rfl, rfl, ⟨new_cell w3 _ _ 0 _ rfl, new_cell w3 _ _ 1 _ rfl⟩, HZZ.out, HB3.out.trans (((Below.refl w3.heap.size w3).alloc (Nat.le_refl _) _).mono HB3.out.size), by have := HB3.out.size; omega⟩
      · have HKA := hide hkA
        have HKC := hide hkC
        have hpv : passV N.jts[j].kind (.pointer (some ⟨B, 0, none⟩)) = .func (.func 65) #[.pointer (some ⟨B, 0, none⟩)] #[] := by simp [passV, hkA, hkC]
        clear hkC hkA
        obtain rfl := HFV.out.symm.trans hpv
        go_wp2_with fail
        refine (through_pass B N.pcs.length (some ⟨jb, jo, none⟩) cap' N.jts j i t _ (hx, hy) xs[j] hjl H3.out hil HKA.out HKC.out HC1.out.c4 HJ1.out).mono ?_
        rintro e w3 ⟨e1, e2, rfl, hz, hb3⟩
        rw [HOV.out] at hz ⊢
        dsimp only at hz ⊢
        have HZZ := hide hz
        have HB3 := hide hb3
        clear hz hb3 s0 s1 s2
        go_wp2_with fail
        go_meet
        exact ⟨e1, e2, _, rfl, rfl, ⟨new_cell w3 _ _ 0 _ rfl, new_cell w3 _ _ 1 _ rfl⟩, HZZ.out, HB3.out.trans (((Below.refl w3.heap.size w3).alloc (Nat.le_refl _) _).mono HB3.out.size), by have := HB3.out.size; omega⟩
    case rest =>
      obtain ⟨e1, e2, b6, rfl, rfl, ⟨x0, x1⟩, hz, hb2, hne6⟩ := hcut
      rename World => w5
      have HC2 := hide (HC1.out.later hb2)
      have s0 := cell_later' hb2 s0
      have HATH := hide (show At N.jts (headP q wy) j i by rw [HH.out]; exact HAT.out)
      have HOVH := hide (show overP N.jts[j] (headP q wy) i xs[j] = (oe, cd) by rw [HH.out]; exact HOV.out)
      have HZZ := hide hz
      clear hz hb2 s1 s2 HC1 HJ1 HZ1 HBW
      by_cases hcd : cd = 0
      · subst hcd
        have c7 := HC2.out.c7
        by_cases hov : ov = 1000
        · have qo : ((ov : Int) == 1000) = true := by rw [beq_iff_eq]; omega
          have HO := hide hov
          clear hov
          go_wp2_with fail
          go_quiet (fail)
          go_wp2_with fail
          exact bodyPost_ret (v := .tuple #[.int .i64 5, .int .i64 j]) (by simp [results, Try.results43, go_sem]) rfl ⟨j, i, hjl, hxl, HATH.out, Or.inr (Or.inl ⟨by rw [HOVH.out], HO.out, rfl, HC2.out.later (below_drewN (Below.refl _ _) _)⟩)⟩
        · have qo : ((ov : Int) == 1000) = false := by rw [beq_eq_false_iff_ne]; omega
          have HO := hide hov
          have hek := HEOK.out (by rw [HOV.out])
          have hzz := HZZ.out rfl
          rw [HOV.out] at hek
          dsimp only at hek
          rw [hzz] at hek
          simp only [endOk, inR, Bool.and_eq_true, decide_eq_true_eq] at hek
          obtain ⟨⟨he10, he11⟩, he20, he21⟩ := hek
          obtain ⟨ke, rfl⟩ := Int.eq_ofNat_of_zero_le he10
          have hke : ke < N.pcs.length := by omega
          have hsd : e2 = 0 ∨ e2 = 1 := by omega
          have f7 := HC2.out.fz 7
          have x7 : True := trivial
          have HCV := hide (show CS W B m (.slice a N.pcs.length cap) (.slice (some ⟨jb, jo, none⟩) N.jts.length cap') (.slice zb xs.length zc) (w5.setCell ⟨B, 7, none⟩ (.int .i64 ((ov : Int) + 1))) q a0 wy (ov + 1) u ps by
            have h := HC2.out.setOv (ov + 1)
            have e : ((ov + 1 : Nat) : Int) = (ov : Int) + 1 := by omega
            rw [e] at h
            exact h)
          have s0 := Frm.set B w5 7 (.int .i64 ((ov : Int) + 1)) b4 0 _ hb4 s0
          have x0 := Frm.set B w5 7 (.int .i64 ((ov : Int) + 1)) b6 0 _ hne6 x0
          have x1 := Frm.set B w5 7 (.int .i64 ((ov : Int) + 1)) b6 1 _ hne6 x1
          clear he10 he11 he20 he21 hov
          go_upto_region 8 with fail
          generalize w5.setCell ⟨B, 7, none⟩ (.int .i64 ((ov : Int) + 1)) = w3 at *
          have HBV := hide (HCV.out.below HE.out)
          have HXE : Hid (XE w3.drew B b6 (.slice a N.pcs.length cap) ke e2) := ⟨HCV.out.c3, x0, x1⟩
          clear x0 x1 f7 c7 x7
          go_region_held3 (fun wx => XE wx B b6 (.slice a N.pcs.length cap) ke e2)
            (first
              | (exact HXE.out)
              | (exact HXF.out)
              | (exact HXF.out.put hne6 _ _ _))
            (first
              | (go_at_call 56; refine (entry_any _ N _ ke e2 _ hke hsd (HP.out.later (HBV.out.trans (((Below.refl w3.heap.size w3).drew).mono HBV.out.size)))).mono ?_; rintro e w4 ⟨rfl, hb4'⟩; have HC4 := hide (HCV.out.later (((Below.refl w3.heap.size w3).drew).trans hb4')); have HXF := hide (HXE.out.later hb4'); have s0 := cell_later' (((Below.refl w3.heap.size w3).drew).trans hb4') s0; have c0 := HC4.out.c0; have c1 := HC4.out.c1; have c2 := HC4.out.c2; have f0 := HC4.out.fz 0; have f1 := HC4.out.fz 1; have f2 := HC4.out.fz 2; obtain ⟨n1, n2, n3, hen⟩ : ∃ n1 n2 n3, enterP N (ke, e2) = (n1, n2, n3) := ⟨_, _, _, rfl⟩; have HEN := hide hen; rw [hen]; clear hen; dsimp only))
          have HC5 := hide (HC4.out.setSpot n1 n2 n3)
          have s0 := Frm.set B _ 2 (.int .i64 n3) b4 0 _ hb4 (Frm.set B _ 1 (.int .i64 n2) b4 0 _ hb4 (Frm.set B _ 0 (.int .i64 n1) b4 0 _ hb4 s0))
          clear c0 c1 c2 f0 f1 f2
          go_wp2_with fail
          go_quiet (fail)
          go_wp2_with fail
          exact bodyPost_ret (v := .tuple #[.int .i64 0, .int .i64 j]) (by simp [results, Try.results43, go_sem]) rfl ⟨j, i, hjl, hxl, HATH.out, Or.inr (Or.inr ⟨by rw [HOVH.out], HO.out, rfl, by rw [HOVH.out]; dsimp only; rw [hzz, HEN.out]; exact HC5.out.later (below_drewN (Below.refl _ _) _)⟩)⟩
      · have qc : (cd == 0) = false := by rw [beq_eq_false_iff_ne]; exact hcd
        have HCD := hide hcd
        clear hcd
        go_wp2_with fail
        go_quiet (fail)
        go_wp2_with fail
        exact bodyPost_ret (v := .tuple #[.int .i64 cd, .int .i64 j]) (by simp [results, Try.results43, go_sem]) rfl ⟨j, i, hjl, hxl, HATH.out, Or.inl ⟨by rw [HOVH.out]; exact HCD.out, by rw [HOVH.out], HC2.out.later (below_drewN (Below.refl _ _) _)⟩⟩
end Go.Proofs.Yteapmddadieohaa
