/- cross. Own work. -/
import Derived.Test.YtldafgbhjpfboaaGreatMxAL
import Derived.Test.YtldafgbhjpfboaaGreatMxAI
import Derived.Test.YtldafgbhjpfboaaGreatMxAG
namespace Go.Proofs.YtldafgbhjpfboaaGreat
open Go.RowKit
set_option maxHeartbeats 8000000

abbrev XS (w0 wx : World) (B m : Nat) (q a wy hx hy : Int) (sv : Value) : Prop :=
  (wx.cell? ⟨B, 0, none⟩ = some (.int .i64 q) ∧ wx.cell? ⟨B, 1, none⟩ = some (.int .i64 a) ∧ wx.cell? ⟨B, 2, none⟩ = some (.int .i64 wy) ∧ wx.cell? ⟨B, 6, none⟩ = some (.map (some m)) ∧ (Instr.lookup 64 (.map (some m)) (.agg #[.int .i64 hx, .int .i64 hy]) false).run Tryz.prog wx = .ok sv wx) ∧ Hid (Below w0.heap.size w0 wx)

theorem xs_of {w W : World} {B m n : Nat} {js : List Jt} {sp sj sl : Value} {w0 : World} {q a wy : Int} {ov : Nat} {u : Value} {ps : List (Int × Int × Int)} (E : Env w W B m n (seatTo js js.length)) (h : CS W B m sp sj sl w0 q a wy ov u ps) {hx hy x y z : Int} (hw : Wf2 (hx, hy)) (ht : (seatTo js js.length (hx, hy)).getD (0, 0, 0) = (x, y, z)) {wx : World} (hb : Below w0.heap.size w0 wx) :
    XS w0 wx B m q a wy hx hy (.agg #[.int .i64 x, .int .i64 y, .int .i64 z]) := by
  have h' := h.later hb
  refine ⟨⟨h'.c0, h'.c1, h'.c2, h'.c6, ?_⟩, hb⟩
  rw [(h'.seat E).look hx hy hw, ht]
  rfl
theorem keepX {w0 w2 w3 : World} {B m : Nat} {q a wy hx hy : Int} {sv : Value} (hall : ∀ wx, Below w0.heap.size w0 wx → XS w0 wx B m q a wy hx hy sv) (hb : Below w2.heap.size w2 w3) (h : XS w0 w2 B m q a wy hx hy sv) : XS w0 w3 B m q a wy hx hy sv :=
  hall w3 (h.2.out.trans (hb.mono h.2.out.size))
theorem keepX3 {w0 w2 : World} {B m : Nat} {q a wy hx hy : Int} {sv : Value} (hall : ∀ wx, Below w0.heap.size w0 wx → XS w0 wx B m q a wy hx hy sv) {b : Nat} (hb : w0.heap.size ≤ b) (h : XS w0 w2 B m q a wy hx hy sv) (x y z : Value) : XS w0 (((w2.setCell ⟨b, 0, none⟩ x).setCell ⟨b, 1, none⟩ y).setCell ⟨b, 2, none⟩ z) B m q a wy hx hy sv :=
  hall _ (((h.2.out.setCell hb _).setCell hb _).setCell hb _)

/-- What is read on the way to entry. -/
abbrev XE (w' : World) (B b6 : Nat) (sp : Value) (k : Nat) (sd : Int) : Prop := w'.cell? ⟨B, 3, none⟩ = some sp ∧ w'.cell? ⟨b6, 0, none⟩ = some (.int .i64 k) ∧ w'.cell? ⟨b6, 1, none⟩ = some (.int .i64 sd)
theorem XE.later {w1 w2 : World} {B b6 : Nat} {sp : Value} {k : Nat} {sd : Int} (h : XE w1 B b6 sp k sd) (hb : Below w1.heap.size w1 w2) : XE w2 B b6 sp k sd := ⟨cell_later' hb h.1, cell_later' hb h.2.1, cell_later' hb h.2.2⟩
theorem XE.put {w1 : World} {B b6 : Nat} {sp : Value} {k : Nat} {sd : Int} (h : XE w1 B b6 sp k sd) (hne : ¬ b6 = B) (x y z : Value) : XE (((w1.setCell ⟨B, 0, none⟩ x).setCell ⟨B, 1, none⟩ y).setCell ⟨B, 2, none⟩ z) B b6 sp k sd := by
  have e : ∀ (W : World) (o : Nat) (v : Value) (i : Nat) (u : Value), W.cell? ⟨b6, i, none⟩ = some u → (W.setCell ⟨B, o, none⟩ v).cell? ⟨b6, i, none⟩ = some u := fun W o v i u hu => by
    rw [World.cell?_setCell_far W ⟨B, o, none⟩ ⟨b6, i, none⟩ v (by show B ≠ b6; omega)]; exact hu
  refine ⟨?_, e _ _ _ _ _ (e _ _ _ _ _ (e _ _ _ _ _ h.2.1)), e _ _ _ _ _ (e _ _ _ _ _ (e _ _ _ _ _ h.2.2))⟩
  have := h.1
  simp [go_sem, this]

theorem facing_at {q a wy hx hy : Int} (hwy : wy = 1 ∨ wy = -1) (hH : headP q wy = (hx, hy)) (w : World) :
    Calls Tryz.prog 87 #[.agg #[.int .i64 q, .int .i64 a, .int .i64 wy]] w fun e w' => e = .returned (.agg #[.int .i64 hx, .int .i64 hy]) ∧ Below w.heap.size w w' := (facing_any q a wy w hwy).mono fun _ _ h => ⟨by rw [h.1, hH], h.2⟩
theorem kindOf_s {k : Int} (h : 1 ≤ k ∧ k ≤ 4) (w : World) : Calls Tryz.prog 92 #[.int .i64 k] w fun e w' => e = .returned (kindV k) ∧ w' = w := (kindOf_any k h w).mono fun _ _ h => ⟨h.1, h.2.symm⟩
theorem passing_s {k : Int} (h : 1 ≤ k ∧ k ≤ 4) (p : Value) (w : World) : Calls Tryz.prog 93 #[p, kindV k] w fun e w' => e = .returned (passV k p) ∧ w' = w := (passing_any k h p w).mono fun _ _ h => ⟨h.1, h.2.symm⟩

/-- What cross tells, and where the cursor is then. -/
def CrossQ (N : Nt) (xs : List Int) (W : World) (B m : Nat) (sp sj sl : Value) (q a wy : Int) (ov : Nat) (u : Value) (ps : List (Int × Int × Int)) (e : Ending) (w2 : World) : Prop :=
  ∃ (j i : Nat) (hj : j < N.jts.length) (hx : j < xs.length), At N.jts (headP q wy) j i ∧
    ((¬ (overP N.jts[j] (headP q wy) i xs[j]).2 = 0 ∧ e = .returned (.tuple #[.int .i64 (overP N.jts[j] (headP q wy) i xs[j]).2, .int .i64 j]) ∧ CS W B m sp sj sl w2 q a wy ov u ps) ∨
     ((overP N.jts[j] (headP q wy) i xs[j]).2 = 0 ∧ ov = 1000 ∧ e = .returned (.tuple #[.int .i64 5, .int .i64 j]) ∧ CS W B m sp sj sl w2 q a wy ov u ps) ∨
     ((overP N.jts[j] (headP q wy) i xs[j]).2 = 0 ∧ ¬ ov = 1000 ∧ e = .returned (.tuple #[.int .i64 0, .int .i64 j]) ∧ CS W B m sp sj sl w2 (enterP N (overP N.jts[j] (headP q wy) i xs[j]).1).1 (enterP N (overP N.jts[j] (headP q wy) i xs[j]).1).2.1 (enterP N (overP N.jts[j] (headP q wy) i xs[j]).1).2.2 (ov + 1) u ps))

theorem cross_any {w W : World} {B m n : Nat} {a a' zb : Option Addr} {N : Nt} {cap cap' zc : Nat} {xs : List Int} {w0 : World} {q a0 wy : Int} {ov : Nat} {u : Value} {ps : List (Int × Int × Int)} (E : Env w W B m n (seatTo N.jts N.jts.length)) (h : CS W B m (.slice a N.pcs.length cap) (.slice a' N.jts.length cap') (.slice zb xs.length zc) w0 q a0 wy ov u ps)
    (hright : netOk N = (0, 0)) (hlies : liesP N.jts xs = true) (hspot : spotP N q a0 wy = true) (hov : ov ≤ 1000) (hn : N.pcs.length ≤ 1048576) (hP : PcsAt w a N.pcs) (hJ : JtsAt w a' N.jts) (hZ : IntsAt w zb xs) :
    Calls Tryz.prog 78 #[.pointer (some ⟨B, 0, none⟩)] w0 fun e w2 => CrossQ N xs W B m (.slice a N.pcs.length cap) (.slice a' N.jts.length cap') (.slice zb xs.length zc) q a0 wy ov u ps e w2 := by
  have hwy : wy = 1 ∨ wy = -1 := by
    simp [spotP] at hspot
    omega
  have hok := headP_ok hspot
  obtain ⟨hx, hy, hH⟩ : ∃ hx hy, headP q wy = (hx, hy) := ⟨_, _, rfl⟩
  rw [hH] at hok
  have hwf := endOk_wf hn hok
  have hsi := seatIs_right hright (hx, hy)
  have hsome : (seatTo N.jts N.jts.length (hx, hy)).isSome = true := by
    cases hs : (seatTo N.jts N.jts.length (hx, hy)).isSome
    · rw [hs] at hsi
      exact absurd ⟨hright, hok⟩ (hsi.2 rfl)
    · rfl
  obtain ⟨_, j, i, hj1, hi1, hat⟩ := hsi.1 hsome
  obtain ⟨t, ht⟩ : ∃ t, (seatTo N.jts N.jts.length (hx, hy)).getD (0, 0, 0) = ((j : Int), (i : Int), t) := ⟨_, by rw [← hj1, ← hi1]⟩
  have HAT := hide hat
  obtain ⟨hjl, hil, _⟩ := hat
  have hxl : j < xs.length := by
    have := hlies
    simp [liesP] at this
    omega
  have HXS := hide (fun wx hb => xs_of E h hwf ht (wx := wx) hb)
  have HE := hide E
  have HC := hide h
  have HP := hide hP
  have HJ := hide hJ
  have HZ := hide hZ
  have HRT := hide hright
  have HLI := hide hlies
  have HH := hide hH
  clear E h hP hJ hZ hright hlies hH hwf hsi hsome hj1 hi1 ht hok hspot
  go_enter Tryz.func78, Tryz.ntmps78
  go_upto_region 1 with fail
  go_cut [4] (fun s4 wx => ∃ b4 : Nat, s4 = .pointer (some ⟨b4, 0, none⟩) ∧ In3 wx b4 j i t ∧ Below w0.heap.size w0 wx ∧ ¬ b4 = B)
  case first =>
    have hBlt := cell_lt HC.out.c0
    go_region_held3 (fun wx => XS w0 wx B m q a0 wy hx hy (.agg #[.int .i64 j, .int .i64 i, .int .i64 t]))
      (first
        | (with_reducible exact HXS.out _ ((Below.refl w0.heap.size w0).drew))
        | (with_reducible exact HSF.out)
        | (exact keepX HXS.out (by assumption) (by assumption))
        | (exact keepX HXS.out ((Below.refl _ _).alloc (Nat.le_refl _) _) (by assumption))
        | (exact keepX HXS.out ((Below.refl wF.heap.size wF).alloc (Nat.le_refl _) _) HSF.out)
        | (exact keepX3 HXS.out (by omega) HSF.out _ _ _))
      (first
        | (go_at_call 87; refine (facing_at hwy HH.out _).mono ?_; rintro e wF ⟨rfl, hbF⟩; have HSF : Hid (XS w0 wF B m q a0 wy hx hy (.agg #[.int .i64 j, .int .i64 i, .int .i64 t])) := keepX HXS.out hbF (by assumption); have sF : w0.heap.size ≤ wF.heap.size := (heldB HSF.out).size; try (have y3 : Zero3 wF w0.heap.size := Zero3.later (w := (w0.alloc (.cells #[.int .i64 0, .int .i64 0, .int .i64 0] 124)).drew) (Zero3.new w0 124) hbF)))
    all_goals
      rename_i hHS
      have hbx := heldB hHS
      go_wp2_with fail
      go_meet
      first
        | exact ⟨_, rfl, In3.put y3 j i t, hbx, by omega⟩
        | exact ⟨_, rfl, ⟨new_cell wF _ _ 0 _ rfl, new_cell wF _ _ 1 _ rfl, new_cell wF _ _ 2 _ rfl⟩, hbx, by omega⟩
  case rest =>
    obtain ⟨b4, rfl, ⟨s0, s1, s2⟩, hb1, hb4⟩ := hcut
    rename World => w1
    have HC1 := hide (HC.out.later hb1)
    have HBW := hide (HC1.out.below HE.out)
    have HJ1 := hide (HJ.out.later HBW.out)
    have HZ1 := hide (HZ.out.later HBW.out)
    obtain ⟨jb, jo, ea, ec, rfl, d0, _, _, _⟩ := HJ1.out j hjl
    have hji : (j : Int) < (N.jts.length : Int) := by omega
    have c4 := HC1.out.c4
    have hB1lt := cell_lt c4
    have hB3 : jb3 N.pcs.length N.jts[j] = false := by rw [← jtBad3_jb3 hjl]; exact (right_facts HRT.out).2.2.1 j hjl
    have HK14 := hide (jb3_len hB3).1
    have H3 := hide hB3
    obtain ⟨oe, cd, hov2⟩ : ∃ oe cd, overP N.jts[j] (hx, hy) i xs[j] = (oe, cd) := ⟨_, _, rfl⟩
    have HOV := hide hov2
    have HEOK := hide (fun h0 => overP_ok HRT.out HLI.out hjl hxl HAT.out h0)
    have HX02 := hide (show 0 ≤ xs[j] ∧ xs[j] ≤ 2 by
      have h := HLI.out
      cases hbad : lieOk N.jts[j] xs[j]
      · rw [liesP_bad hjl hxl hbad] at h
        cases h
      · simp [lieOk, inR] at hbad
        exact hbad.1)
    clear hB3 hov2 hb1 HXS
    go_upto_region 2 with fail
    go_quiet (first | (go_at_call 92; exact Calls.quiet_of_same (kindOf_s HK14.out _)) | (go_at_call 93; exact Calls.quiet_of_same (passing_s HK14.out _ _)))
    have hq := below_drewN (Below.refl w1.heap.size w1) nq
    generalize w1.drewN nq = w2 at hq ⊢
    have HC1 := hide (HC1.out.later hq)
    have HJ1 := hide (HJ1.out.later hq)
    have HZ1 := hide (HZ1.out.later hq)
    have s0 := cell_later' hq s0
    have s1 := cell_later' hq s1
    have s2 := cell_later' hq s2
    have hB1lt : B < w2.heap.size := Nat.lt_of_lt_of_le hB1lt hq.size
    clear hq c4 d0
    generalize hfv : passV N.jts[j].kind (.pointer (some ⟨B, 0, none⟩)) = fv
    have HFV := hide hfv
    clear hfv
    go_upto_region 3 with fail
    go_cut [2, 6] (fun s2 s6 wx => ∃ (e1 e2 : Int) (b6 : Nat), s2 = .int .i64 cd ∧ s6 = .pointer (some ⟨b6, 0, none⟩) ∧ (wx.cell? ⟨b6, 0, none⟩ = some (.int .i64 e1) ∧ wx.cell? ⟨b6, 1, none⟩ = some (.int .i64 e2)) ∧ (cd = 0 → oe = (e1, e2)) ∧ Below w2.heap.size w2 wx ∧ ¬ b6 = B)
    case first =>
      by_cases hkA : N.jts[j].kind = 1
      · have HKA := hide hkA
        have hpv : passV N.jts[j].kind (.pointer (some ⟨B, 0, none⟩)) = .func (.func 96) #[.pointer (some ⟨B, 0, none⟩)] #[] := by simp [passV, hkA]
        clear hkA
        obtain rfl := HFV.out.symm.trans hpv
        go_wp2_with fail
        refine (halt_pass HKA.out (hx, hy) i xs[j] _ _ _ _ _).mono ?_
        rintro e w3 ⟨e1, e2, rfl, hz, hb3⟩
        rw [HOV.out] at hz ⊢
        dsimp only at hz ⊢
        have HZZ := hide hz
        have HB3 := hide hb3
        clear hz hb3 s0 s1 s2
        go_wp2_with fail
        go_meet
        exact ⟨e1, e2, _, rfl, rfl, ⟨new_cell w3 _ _ 0 _ rfl, new_cell w3 _ _ 1 _ rfl⟩, HZZ.out, HB3.out.trans (((Below.refl w3.heap.size w3).alloc (Nat.le_refl _) _).mono HB3.out.size), by have := HB3.out.size; omega⟩
      by_cases hkC : N.jts[j].kind = 3
      · have HKC := hide hkC
        have hpv : passV N.jts[j].kind (.pointer (some ⟨B, 0, none⟩)) = .func (.func 97) #[.pointer (some ⟨B, 0, none⟩)] #[] := by simp [passV, hkC]
        clear hkC hkA
        obtain rfl := HFV.out.symm.trans hpv
        go_wp2_with fail
        refine (lies_pass B N.pcs.length (some ⟨jb, jo, none⟩) zb cap' zc N.jts xs j i t _ (hx, hy) hjl hxl HX02.out H3.out hil HKC.out HC1.out.c4 HC1.out.c5 HJ1.out HZ1.out).mono ?_
        rintro e w3 ⟨e1, e2, rfl, hz, hb3⟩
        rw [HOV.out] at hz ⊢
        dsimp only at hz ⊢
        have HZZ := hide hz
        have HB3 := hide hb3
        clear hz hb3 s0 s1 s2
        go_wp2_with fail
        go_meet
        exact ⟨e1, e2, _, rfl, rfl, ⟨new_cell w3 _ _ 0 _ rfl, new_cell w3 _ _ 1 _ rfl⟩, HZZ.out, HB3.out.trans (((Below.refl w3.heap.size w3).alloc (Nat.le_refl _) _).mono HB3.out.size), by have := HB3.out.size; omega⟩
      · have HKA := hide hkA
        have HKC := hide hkC
        have hpv : passV N.jts[j].kind (.pointer (some ⟨B, 0, none⟩)) = .func (.func 98) #[.pointer (some ⟨B, 0, none⟩)] #[] := by simp [passV, hkA, hkC]
        clear hkC hkA
        obtain rfl := HFV.out.symm.trans hpv
        go_wp2_with fail
        refine (through_pass B N.pcs.length (some ⟨jb, jo, none⟩) cap' N.jts j i t _ (hx, hy) xs[j] hjl H3.out hil HKA.out HKC.out HC1.out.c4 HJ1.out).mono ?_
        rintro e w3 ⟨e1, e2, rfl, hz, hb3⟩
        rw [HOV.out] at hz ⊢
        dsimp only at hz ⊢
        have HZZ := hide hz
        have HB3 := hide hb3
        clear hz hb3 s0 s1 s2
        go_wp2_with fail
        go_meet
        exact ⟨e1, e2, _, rfl, rfl, ⟨new_cell w3 _ _ 0 _ rfl, new_cell w3 _ _ 1 _ rfl⟩, HZZ.out, HB3.out.trans (((Below.refl w3.heap.size w3).alloc (Nat.le_refl _) _).mono HB3.out.size), by have := HB3.out.size; omega⟩
    case rest =>
      obtain ⟨e1, e2, b6, rfl, rfl, ⟨x0, x1⟩, hz, hb2, hne6⟩ := hcut
      rename World => w5
      have HC2 := hide (HC1.out.later hb2)
      have s0 := cell_later' hb2 s0
      have HATH := hide (show At N.jts (headP q wy) j i by rw [HH.out]; exact HAT.out)
      have HOVH := hide (show overP N.jts[j] (headP q wy) i xs[j] = (oe, cd) by rw [HH.out]; exact HOV.out)
      have HZZ := hide hz
      clear hz hb2 s1 s2 HC1 HJ1 HZ1 HBW
      by_cases hcd : cd = 0
      · subst hcd
        have c7 := HC2.out.c7
        by_cases hov : ov = 1000
        · have qo : ((ov : Int) == 1000) = true := by rw [beq_iff_eq]; omega
          have HO := hide hov
          clear hov
          go_wp2_with fail
          go_quiet (fail)
          go_wp2_with fail
          exact bodyPost_ret (v := .tuple #[.int .i64 5, .int .i64 j]) (by simp [results, Tryz.results78, go_sem]) rfl ⟨j, i, hjl, hxl, HATH.out, Or.inr (Or.inl ⟨by rw [HOVH.out], HO.out, rfl, HC2.out.later (below_drewN (Below.refl _ _) _)⟩)⟩
        · have qo : ((ov : Int) == 1000) = false := by rw [beq_eq_false_iff_ne]; omega
          have HO := hide hov
          have hek := HEOK.out (by rw [HOV.out])
          have hzz := HZZ.out rfl
          rw [HOV.out] at hek
          dsimp only at hek
          rw [hzz] at hek
          simp only [endOk, inR, Bool.and_eq_true, decide_eq_true_eq] at hek
          obtain ⟨⟨he10, he11⟩, he20, he21⟩ := hek
          obtain ⟨ke, rfl⟩ := Int.eq_ofNat_of_zero_le he10
          have hke : ke < N.pcs.length := by omega
          have hsd : e2 = 0 ∨ e2 = 1 := by omega
          have f7 := HC2.out.fz 7
          have x7 : True := trivial
          have HCV := hide (show CS W B m (.slice a N.pcs.length cap) (.slice (some ⟨jb, jo, none⟩) N.jts.length cap') (.slice zb xs.length zc) (w5.setCell ⟨B, 7, none⟩ (.int .i64 ((ov : Int) + 1))) q a0 wy (ov + 1) u ps by
            have h := HC2.out.setOv (ov + 1)
            have e : ((ov + 1 : Nat) : Int) = (ov : Int) + 1 := by omega
            rw [e] at h
            exact h)
          have s0 := Frm.set B w5 7 (.int .i64 ((ov : Int) + 1)) b4 0 _ hb4 s0
          have x0 := Frm.set B w5 7 (.int .i64 ((ov : Int) + 1)) b6 0 _ hne6 x0
          have x1 := Frm.set B w5 7 (.int .i64 ((ov : Int) + 1)) b6 1 _ hne6 x1
          clear he10 he11 he20 he21 hov
          go_upto_region 8 with fail
          generalize w5.setCell ⟨B, 7, none⟩ (.int .i64 ((ov : Int) + 1)) = w3 at *
          have HBV := hide (HCV.out.below HE.out)
          have HXE : Hid (XE w3.drew B b6 (.slice a N.pcs.length cap) ke e2) := ⟨HCV.out.c3, x0, x1⟩
          clear x0 x1 f7 c7 x7
          go_region_held3 (fun wx => XE wx B b6 (.slice a N.pcs.length cap) ke e2)
            (first
              | (exact HXE.out)
              | (exact HXF.out)
              | (exact HXF.out.put hne6 _ _ _))
            (first
              | (go_at_call 71; refine (entry_any _ N _ ke e2 _ hke hsd (HP.out.later (HBV.out.trans (((Below.refl w3.heap.size w3).drew).mono HBV.out.size)))).mono ?_; rintro e w4 ⟨rfl, hb4'⟩; have HC4 := hide (HCV.out.later (((Below.refl w3.heap.size w3).drew).trans hb4')); have HXF := hide (HXE.out.later hb4'); have s0 := cell_later' (((Below.refl w3.heap.size w3).drew).trans hb4') s0; have c0 := HC4.out.c0; have c1 := HC4.out.c1; have c2 := HC4.out.c2; have f0 := HC4.out.fz 0; have f1 := HC4.out.fz 1; have f2 := HC4.out.fz 2; obtain ⟨n1, n2, n3, hen⟩ : ∃ n1 n2 n3, enterP N (ke, e2) = (n1, n2, n3) := ⟨_, _, _, rfl⟩; have HEN := hide hen; rw [hen]; clear hen; dsimp only))
          have HC5 := hide (HC4.out.setSpot n1 n2 n3)
          have s0 := Frm.set B _ 2 (.int .i64 n3) b4 0 _ hb4 (Frm.set B _ 1 (.int .i64 n2) b4 0 _ hb4 (Frm.set B _ 0 (.int .i64 n1) b4 0 _ hb4 s0))
          clear c0 c1 c2 f0 f1 f2
          go_wp2_with fail
          go_quiet (fail)
          go_wp2_with fail
          exact bodyPost_ret (v := .tuple #[.int .i64 0, .int .i64 j]) (by simp [results, Tryz.results78, go_sem]) rfl ⟨j, i, hjl, hxl, HATH.out, Or.inr (Or.inr ⟨by rw [HOVH.out], HO.out, rfl, by rw [HOVH.out]; dsimp only; rw [hzz, HEN.out]; exact HC5.out.later (below_drewN (Below.refl _ _) _)⟩)⟩
      · have qc : (cd == 0) = false := by rw [beq_eq_false_iff_ne]; exact hcd
        have HCD := hide hcd
        clear hcd
        go_wp2_with fail
        go_quiet (fail)
        go_wp2_with fail
        exact bodyPost_ret (v := .tuple #[.int .i64 cd, .int .i64 j]) (by simp [results, Tryz.results78, go_sem]) rfl ⟨j, i, hjl, hxl, HATH.out, Or.inl ⟨by rw [HOVH.out]; exact HCD.out, by rw [HOVH.out], HC2.out.later (below_drewN (Below.refl _ _) _)⟩⟩
end Go.Proofs.YtldafgbhjpfboaaGreat

/- Ways, which of two is less, and what is best: plain. Own work. -/
namespace Go.Proofs.YtldafgbhjpfboaaGreat

/-- A way: how far, by which steps. -/
structure Wy where
  far : Int
  ss : List (Int × Int)

/-- Where steps are less, by piece, then by way, where they first part. -/
def lessS : List (Int × Int) → List (Int × Int) → Bool
  | x :: xs, y :: ys => if x.1 = y.1 then (if x.2 = y.2 then lessS xs ys else decide (x.2 < y.2)) else decide (x.1 < y.1)
  | _, _ => false
def lessW (a b : Wy) : Bool := if a.far = b.far then (if a.ss.length = b.ss.length then lessS a.ss b.ss else decide (a.ss.length < b.ss.length)) else decide (a.far < b.far)

theorem lessS_irr (a : List (Int × Int)) : lessS a a = false := by
  induction a with
  | nil => rfl
  | cons x a ih => simp [lessS, ih]
theorem lessS_tri : ∀ (a b : List (Int × Int)), a.length = b.length → lessS a b = false → lessS b a = false → a = b
  | [], [], _, _, _ => rfl
  | [], _ :: _, h, _, _ => by simp at h
  | _ :: _, [], h, _, _ => by simp at h
  | x :: a, y :: b, h, h1, h2 => by
    unfold lessS at h1 h2
    by_cases e1 : x.1 = y.1
    · rw [if_pos e1] at h1
      rw [if_pos e1.symm] at h2
      by_cases e2 : x.2 = y.2
      · rw [if_pos e2] at h1
        rw [if_pos e2.symm] at h2
        rw [lessS_tri a b (by simpa using h) h1 h2, Prod.ext e1 e2]
      · rw [if_neg e2] at h1
        rw [if_neg (fun h => e2 h.symm)] at h2
        simp only [decide_eq_false_iff_not] at h1 h2
        omega
    · rw [if_neg e1] at h1
      rw [if_neg (fun h => e1 h.symm)] at h2
      simp only [decide_eq_false_iff_not] at h1 h2
      omega
theorem lessS_trans : ∀ (a b c : List (Int × Int)), lessS a b = true → lessS b c = true → lessS a c = true
  | [], _, _, h, _ => by simp [lessS] at h
  | _ :: _, [], _, h, _ => by simp [lessS] at h
  | _ :: _, _ :: _, [], _, h => by simp [lessS] at h
  | x :: a, y :: b, z :: c, h1, h2 => by
    unfold lessS at h1 h2 ⊢
    by_cases e1 : x.1 = y.1
    · rw [if_pos e1] at h1
      by_cases e2 : y.1 = z.1
      · rw [if_pos e2] at h2
        rw [if_pos (e1.trans e2)]
        by_cases f1 : x.2 = y.2
        · rw [if_pos f1] at h1
          by_cases f2 : y.2 = z.2
          · rw [if_pos f2] at h2
            rw [if_pos (f1.trans f2)]
            exact lessS_trans a b c h1 h2
          · rw [if_neg f2] at h2
            rw [if_neg (fun h => f2 (by omega))]
            simp only [decide_eq_true_eq] at h2 ⊢
            omega
        · rw [if_neg f1] at h1
          simp only [decide_eq_true_eq] at h1
          by_cases f2 : y.2 = z.2
          · rw [if_neg (by omega)]
            simp only [decide_eq_true_eq]
            omega
          · rw [if_neg f2] at h2
            simp only [decide_eq_true_eq] at h2
            rw [if_neg (by omega)]
            simp only [decide_eq_true_eq]
            omega
      · rw [if_neg e2] at h2
        rw [if_neg (by omega)]
        simp only [decide_eq_true_eq] at h2 ⊢
        omega
    · rw [if_neg e1] at h1
      simp only [decide_eq_true_eq] at h1
      by_cases e2 : y.1 = z.1
      · rw [if_neg (by omega)]
        simp only [decide_eq_true_eq]
        omega
      · rw [if_neg e2] at h2
        simp only [decide_eq_true_eq] at h2
        rw [if_neg (by omega)]
        simp only [decide_eq_true_eq]
        omega
theorem lessS_snoc : ∀ (a b : List (Int × Int)) (z : Int × Int), a.length = b.length → lessS (a ++ [z]) (b ++ [z]) = lessS a b
  | [], [], z, _ => by simp [lessS]
  | [], _ :: _, _, h => by simp at h
  | _ :: _, [], _, h => by simp at h
  | x :: a, y :: b, z, h => by
    show lessS (x :: (a ++ [z])) (y :: (b ++ [z])) = lessS (x :: a) (y :: b)
    unfold lessS
    rw [lessS_snoc a b z (by simpa using h)]

theorem lessW_irr (a : Wy) : lessW a a = false := by simp [lessW, lessS_irr]
theorem lessW_trans {a b c : Wy} (h1 : lessW a b = true) (h2 : lessW b c = true) : lessW a c = true := by
  unfold lessW at h1 h2 ⊢
  by_cases e1 : a.far = b.far
  · rw [if_pos e1] at h1
    by_cases e2 : b.far = c.far
    · rw [if_pos e2] at h2
      rw [if_pos (e1.trans e2)]
      by_cases f1 : a.ss.length = b.ss.length
      · rw [if_pos f1] at h1
        by_cases f2 : b.ss.length = c.ss.length
        · rw [if_pos f2] at h2
          rw [if_pos (f1.trans f2)]
          exact lessS_trans _ _ _ h1 h2
        · rw [if_neg f2] at h2
          simp only [decide_eq_true_eq] at h2
          rw [if_neg (by omega)]
          simp only [decide_eq_true_eq]
          omega
      · rw [if_neg f1] at h1
        simp only [decide_eq_true_eq] at h1
        by_cases f2 : b.ss.length = c.ss.length
        · rw [if_neg (by omega)]
          simp only [decide_eq_true_eq]
          omega
        · rw [if_neg f2] at h2
          simp only [decide_eq_true_eq] at h2
          rw [if_neg (by omega)]
          simp only [decide_eq_true_eq]
          omega
    · rw [if_neg e2] at h2
      simp only [decide_eq_true_eq] at h2
      rw [if_neg (by omega)]
      simp only [decide_eq_true_eq]
      omega
  · rw [if_neg e1] at h1
    simp only [decide_eq_true_eq] at h1
    by_cases e2 : b.far = c.far
    · rw [if_neg (by omega)]
      simp only [decide_eq_true_eq]
      omega
    · rw [if_neg e2] at h2
      simp only [decide_eq_true_eq] at h2
      rw [if_neg (by omega)]
      simp only [decide_eq_true_eq]
      omega
theorem lessW_tri {a b : Wy} (h1 : lessW a b = false) (h2 : lessW b a = false) : a = b := by
  unfold lessW at h1 h2
  by_cases e1 : a.far = b.far
  · rw [if_pos e1] at h1
    rw [if_pos e1.symm] at h2
    by_cases f1 : a.ss.length = b.ss.length
    · rw [if_pos f1] at h1
      rw [if_pos f1.symm] at h2
      have := lessS_tri _ _ f1 h1 h2
      cases a; cases b
      simp only at e1 this
      rw [e1, this]
    · rw [if_neg f1] at h1
      rw [if_neg (fun h => f1 h.symm)] at h2
      simp only [decide_eq_false_iff_not] at h1 h2
      omega
  · rw [if_neg e1] at h1
    rw [if_neg (fun h => e1 h.symm)] at h2
    simp only [decide_eq_false_iff_not] at h1 h2
    omega
/-- a is not behind b. -/
def leW (a b : Wy) : Prop := lessW b a = false
theorem leW_refl (a : Wy) : leW a a := lessW_irr a
theorem leW_of_less {a b : Wy} (h : lessW a b = true) : leW a b := by
  unfold leW
  cases h' : lessW b a
  · rfl
  · have := lessW_trans h h'
    rw [lessW_irr] at this
    exact this.symm
theorem leW_total (a b : Wy) : leW a b ∨ lessW b a = true := by
  unfold leW
  cases lessW b a
  · exact .inl rfl
  · exact .inr rfl
theorem leW_trans {a b c : Wy} (h1 : leW a b) (h2 : leW b c) : leW a c := by
  unfold leW at *
  cases h : lessW c a
  · rfl
  · rcases leW_total b a with h3 | h3
    · have e := lessW_tri (a := a) (b := b) h3 h1
      subst e
      rw [h2] at h
      exact h.symm
    · have := lessW_trans h h3
      rw [h2] at this
      exact this.symm
theorem leW_antisymm {a b : Wy} (h1 : leW a b) (h2 : leW b a) : a = b := lessW_tri h2 h1
theorem less_le {a b c : Wy} (h1 : lessW a b = true) (h2 : leW b c) : lessW a c = true := by
  cases h : lessW a c
  · have : leW c a := h
    have := leW_trans h2 this
    unfold leW at this
    rw [h1] at this
    exact this.symm
  · rfl
theorem le_less {a b c : Wy} (h1 : leW a b) (h2 : lessW b c = true) : lessW a c = true := by
  cases h : lessW a c
  · have : leW c a := h
    have := leW_trans this h1
    unfold leW at this
    rw [h2] at this
    exact this.symm
  · rfl
theorem le_snoc {a b : Wy} (c : Int) (z : Int × Int) (h : leW a b) : leW ⟨a.far + c, a.ss ++ [z]⟩ ⟨b.far + c, b.ss ++ [z]⟩ := by
  unfold leW lessW at *
  simp only [List.length_append, List.length_singleton]
  by_cases e1 : b.far = a.far
  · rw [if_pos e1] at h
    rw [if_pos (by omega)]
    by_cases f1 : b.ss.length = a.ss.length
    · rw [if_pos f1] at h
      rw [if_pos (by omega), lessS_snoc _ _ _ f1]
      exact h
    · rw [if_neg f1] at h
      rw [if_neg (by omega)]
      simp only [decide_eq_false_iff_not] at h ⊢
      omega
  · rw [if_neg e1] at h
    rw [if_neg (by omega)]
    simp only [decide_eq_false_iff_not] at h ⊢
    omega
theorem less_snoc (a : Wy) {c : Int} (hc : 0 ≤ c) (z : Int × Int) : lessW a ⟨a.far + c, a.ss ++ [z]⟩ = true := by
  unfold lessW
  simp only [List.length_append, List.length_singleton]
  by_cases e : a.far = a.far + c
  · rw [if_pos e, if_neg (by omega)]
    simp only [decide_eq_true_eq]
    omega
  · rw [if_neg e]
    simp only [decide_eq_true_eq]
    omega

/-- A track as what lies behind its ends: over the joint at an end, the ends behind it; how long pieces are. -/
structure Gr where
  n : Nat
  nx : Int × Int → List (Int × Int)
  len : Int → Int
  ok : ∀ h e, e ∈ nx h → endOk n e = true
  pos : ∀ p : Int, 0 ≤ p → p < n → 1 ≤ len p ∧ len p ≤ 10000000

def stepOf (e : Int × Int) : Int × Int := (e.1, if e.2 = 0 then 1 else -1)

section
variable (G : Gr) (s : Int × Int) (room : Int)

def costW (y : Wy) (t : Int × Int) : Int := if y.ss.length = 1 then room else G.len t.1
def extW (y : Wy) (t e : Int × Int) : Wy := ⟨y.far + costW G room y t, y.ss ++ [stepOf e]⟩

/-- A way from a spot: over joints, or just its own piece. -/
inductive WayR : Wy → Prop
  | base : WayR ⟨0, [s]⟩
  | more {y : Wy} {t e : Int × Int} (h : WayR y) (ht : y.ss.getLast? = some t) (he : e ∈ G.nx (headP t.1 t.2)) : WayR (extW G room y t e)

/-- A way over a joint or more to the step t. -/
structure ToW (t : Int × Int) (y : Wy) : Prop where
  way : WayR G s room y
  last : y.ss.getLast? = some t
  two : 2 ≤ y.ss.length
def BestW (P : Wy → Prop) (b : Wy) : Prop := P b ∧ ∀ y, P y → leW b y
theorem BestW.one {P : Wy → Prop} {b b' : Wy} (h : BestW P b) (h' : BestW P b') : b = b' := leW_antisymm (h.2 _ h'.1) (h'.2 _ h.1)
end

section
variable {G : Gr} {s : Int × Int} {room : Int}

theorem WayR.pos {y : Wy} (h : WayR G s room y) : 1 ≤ y.ss.length := by
  induction h with
  | base => simp
  | more h ht he ih => simp [extW]
theorem stepOf_ok {n : Nat} {e : Int × Int} (h : endOk n e = true) : (0 ≤ (stepOf e).1 ∧ (stepOf e).1 < n) ∧ ((stepOf e).2 = 1 ∨ (stepOf e).2 = -1) := by
  simp only [endOk, inR, Bool.and_eq_true, decide_eq_true_eq] at h
  unfold stepOf
  refine ⟨⟨by show 0 ≤ e.1; omega, by show e.1 < n; omega⟩, ?_⟩
  dsimp only
  split <;> omega
theorem stepOf_inj {n : Nat} {e f : Int × Int} (he : endOk n e = true) (hf : endOk n f = true) (h : stepOf e = stepOf f) : e = f := by
  simp only [endOk, inR, Bool.and_eq_true, decide_eq_true_eq] at he hf
  unfold stepOf at h
  obtain ⟨h1, h2⟩ := Prod.mk.inj h
  refine Prod.ext h1 ?_
  split at h2 <;> split at h2 <;> omega
/-- The last step of a way over joints is one of a piece. -/
theorem WayR.last_ok {y : Wy} (h : WayR G s room y) (h2 : 2 ≤ y.ss.length) : ∃ e, endOk G.n e = true ∧ y.ss.getLast? = some (stepOf e) := by
  cases h with
  | base => simp at h2
  | more h ht he => exact ⟨_, G.ok _ _ he, by simp [extW]⟩
theorem cost_nonneg {y : Wy} (hr : 0 ≤ room) (h : WayR G s room y) {t : Int × Int} (ht : y.ss.getLast? = some t) : 0 ≤ costW G room y t ∧ (2 ≤ y.ss.length → 1 ≤ costW G room y t ∧ costW G room y t ≤ 10000000) := by
  unfold costW
  split
  · exact ⟨hr, fun _ => by omega⟩
  · have h1 := h.pos
    obtain ⟨e, he, hl⟩ := h.last_ok (by omega)
    rw [hl] at ht
    cases ht
    obtain ⟨⟨h3, h4⟩, _⟩ := stepOf_ok he
    have := G.pos _ h3 h4
    exact ⟨by omega, fun _ => by omega⟩
theorem ext_less (hr : 0 ≤ room) {y : Wy} (h : WayR G s room y) {t : Int × Int} (ht : y.ss.getLast? = some t) (e : Int × Int) : lessW y (extW G room y t e) = true :=
  less_snoc y (cost_nonneg hr h ht).1 _
/-- How far a way is at most. -/
theorem WayR.far_le {y : Wy} (hr : 0 ≤ room ∧ room ≤ 10000000) (h : WayR G s room y) : 0 ≤ y.far ∧ y.far ≤ ((y.ss.length : Int) - 1) * 10000000 := by
  induction h with
  | base => simp
  | @more y t e h ht he ih =>
    have h1 := cost_nonneg hr.1 h ht
    have h2 := h.pos
    have h3 : costW G room y t ≤ 10000000 := by
      by_cases e : y.ss.length = 1
      · unfold costW; rw [if_pos e]; exact hr.2
      · exact (h1.2 (by omega)).2
    simp only [extW, List.length_append, List.length_singleton]
    omega
/-- To go on from a lesser way is to be less. -/
theorem ext_le {a b : Wy} (h : leW a b) (hl : 2 ≤ a.ss.length ∧ 2 ≤ b.ss.length) (t e : Int × Int) : leW (extW G room a t e) (extW G room b t e) := by
  unfold extW costW
  rw [if_neg (by omega), if_neg (by omega)]
  exact le_snoc _ _ h
/-- A way over two joints or more is a way that was gone on with. -/
theorem ToW.cases {t : Int × Int} {y : Wy} (h : ToW G s room t y) : ∃ e, endOk G.n e = true ∧ t = stepOf e ∧ ((e ∈ G.nx (headP s.1 s.2) ∧ y = extW G room ⟨0, [s]⟩ s e) ∨ ∃ u x, ToW G s room u x ∧ e ∈ G.nx (headP u.1 u.2) ∧ y = extW G room x u e) := by
  obtain ⟨hw, hl, h2⟩ := h
  cases hw with
  | base => simp at h2
  | @more x u e hx hu he =>
    have : t = stepOf e := by
      have : (extW G room x u e).ss.getLast? = some (stepOf e) := by simp [extW]
      rw [this] at hl
      cases hl
      rfl
    refine ⟨e, G.ok _ _ he, this, ?_⟩
    by_cases h3 : 2 ≤ x.ss.length
    · exact .inr ⟨u, x, ⟨hx, hu, h3⟩, he, rfl⟩
    · cases hx with
      | base =>
        have : u = s := by simpa using hu.symm
        subst this
        exact .inl ⟨he, rfl⟩
      | more h' _ _ =>
        have := h'.pos
        have e : ∀ (y : Wy) (t e : Int × Int), (extW G room y t e).ss.length = y.ss.length + 1 := fun y t e => by simp [extW]
        rw [e] at h3
        omega
theorem ToW.step {u : Int × Int} {x : Wy} (h : ToW G s room u x) {e : Int × Int} (he : e ∈ G.nx (headP u.1 u.2)) : ToW G s room (stepOf e) (extW G room x u e) :=
  ⟨.more h.way h.last he, by simp [extW], by have := h.two; simp [extW]; omega⟩
theorem ToW.first {e : Int × Int} (he : e ∈ G.nx (headP s.1 s.2)) : ToW G s room (stepOf e) (extW G room ⟨0, [s]⟩ s e) :=
  ⟨.more .base rfl he, by simp [extW], by simp [extW]⟩

/-- Dijkstra: what is known is best, what goes on from it is known or open. -/
structure DijI (known : Int × Int → Option Wy) (opn : List Wy) : Prop where
  best : ∀ t b, known t = some b → BestW (ToW G s room t) b
  way : ∀ y ∈ opn, ∃ t, ToW G s room t y
  start : ∀ e ∈ G.nx (headP s.1 s.2), known (stepOf e) ≠ none ∨ extW G room ⟨0, [s]⟩ s e ∈ opn
  goes : ∀ u b, known u = some b → ∀ e ∈ G.nx (headP u.1 u.2), known (stepOf e) ≠ none ∨ extW G room b u e ∈ opn

/-- Each way to a step that is not known is behind one that is open. -/
theorem DijI.ahead (hr : 0 ≤ room) {known : Int × Int → Option Wy} {opn : List Wy} (h : DijI (G := G) (s := s) (room := room) known opn) {y : Wy} (hw : WayR G s room y) : ∀ {t}, y.ss.getLast? = some t → 2 ≤ y.ss.length → known t = none → ∃ x ∈ opn, leW x y := by
  induction hw with
  | base => intro t _ h2 _; simp at h2
  | @more y u e hy hu he ih =>
    intro t hl _ hk
    have ht : t = stepOf e := by
      have : (extW G room y u e).ss.getLast? = some (stepOf e) := by simp [extW]
      rw [this] at hl
      cases hl
      rfl
    subst ht
    by_cases h2 : 2 ≤ y.ss.length
    · cases hku : known u with
      | none =>
        obtain ⟨x, hx, hle⟩ := ih hu h2 hku
        exact ⟨x, hx, leW_trans hle (leW_of_less (ext_less hr hy hu e))⟩
      | some b =>
        have hb := h.best u b hku
        rcases h.goes u b hku e he with h3 | h3
        · exact absurd hk h3
        · exact ⟨_, h3, ext_le (hb.2 y ⟨hy, hu, h2⟩) ⟨hb.1.two, h2⟩ u e⟩
    · cases hy with
      | base =>
        have : u = s := by simpa using hu.symm
        subst this
        rcases h.start e he with h3 | h3
        · exact absurd hk h3
        · exact ⟨_, h3, leW_refl _⟩
      | more h' _ _ =>
        have := h'.pos
        have e : ∀ (y : Wy) (t e : Int × Int), (extW G room y t e).ss.length = y.ss.length + 1 := fun y t e => by simp [extW]
        rw [e] at h2
        omega
/-- What is open and first is best, where its step is not known. -/
theorem DijI.first (hr : 0 ≤ room) {known : Int × Int → Option Wy} {opn : List Wy} (h : DijI (G := G) (s := s) (room := room) known opn) {x : Wy} (hx : x ∈ opn) (hmin : ∀ y ∈ opn, leW x y) {t : Int × Int} (ht : x.ss.getLast? = some t) (hk : known t = none) : BestW (ToW G s room t) x := by
  obtain ⟨t', h1⟩ := h.way x hx
  have : t' = t := by have := h1.last; rw [ht] at this; cases this; rfl
  subst this
  refine ⟨h1, fun y hy => ?_⟩
  obtain ⟨z, hz, hle⟩ := h.ahead hr hy.way hy.last hy.two hk
  exact leW_trans (hmin z hz) hle
/-- When nothing is open, each step to which there is a way is known. -/
theorem DijI.all (hr : 0 ≤ room) {known : Int × Int → Option Wy} (h : DijI (G := G) (s := s) (room := room) known []) {t : Int × Int} {y : Wy} (hy : ToW G s room t y) : known t ≠ none := by
  intro hk
  obtain ⟨x, hx, _⟩ := h.ahead hr hy.way hy.last hy.two hk
  simp at hx
end
end Go.Proofs.YtldafgbhjpfboaaGreat
