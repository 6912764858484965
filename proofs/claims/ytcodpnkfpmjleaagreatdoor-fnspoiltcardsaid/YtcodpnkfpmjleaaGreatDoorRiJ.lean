/- impl: a line that tells a piece. Own work. -/
import Derived.Test.YtcodpnkfpmjleaaGreatDoorRiL
import Derived.Deep.CutRange
import Derived.Deep.RegionHeldLaw
namespace Go.Proofs.YtcodpnkfpmjleaaGreatDoor
open Go.RowKit Go.Maps Go.Joins Go.Sort
set_option maxHeartbeats 8000000
set_option maxRecDepth 100000

/-- A callee that returns or panics, within a region that is held: the panic is met at once, the walk goes on with what is known else. -/
theorem calls_or {P : Program} {f : FuncId} {args : Array Value} {w : World} {R : Ending → World → Prop} {good bad : Prop} {v : Value} {c : List PanicEntry} {T : World → Prop} (h : Calls P f args w fun e w' => ((good ∧ e = .returned v) ∨ (bad ∧ e = .panicked c)) ∧ T w') (hbad : bad → ∀ w', T w' → R (.panicked c) w') (hgood : Hid good → ∀ w', T w' → R (.returned v) w') : Calls P f args w R :=
  h.mono fun e w' ⟨h1, hT⟩ => by
    rcases h1 with ⟨hg, rfl⟩ | ⟨hb, rfl⟩
    · exact hgood hg w' hT
    · exact hbad hb w' hT
theorem number_ex (br : Nat) (l : Bl) (line : Int) (w : World) (hs : l.length ≤ 1048576) (hc : w.cell? ⟨br, 0, none⟩ = some (.int .i64 line)) :
    Calls Tryz.prog 130 #[.pointer (some ⟨br, 0, none⟩), .string (sb l)] w fun e w' => ((numOk l = true ∧ e = .returned (.int .i64 (valD l))) ∨ (numOk l = false ∧ e = .panicked (leaveC 1 line))) ∧ w = w' := by
  have := number_any br (sb l) line w (by rw [sb_size]; exact hs) hc
  rw [bs_sb] at this
  exact this
/-- The words of a piece's line and the reader's line. -/
abbrev PW (w1 wx : World) (b o br : Nat) (line : Int) (x1 x2 x4 x6 : Bl) : Prop :=
  (wx.cell? ⟨b, o + 1, none⟩ = some (.string (sb x1)) ∧ wx.cell? ⟨b, o + 2, none⟩ = some (.string (sb x2)) ∧ wx.cell? ⟨b, o + 4, none⟩ = some (.string (sb x4)) ∧ wx.cell? ⟨b, o + 6, none⟩ = some (.string (sb x6)) ∧ wx.cell? ⟨br, 0, none⟩ = some (.int .i64 line)) ∧ Hid (Below w1.heap.size w1 wx)
theorem keepPW {w1 w2 w3 : World} {b o br : Nat} {line : Int} {x1 x2 x4 x6 : Bl} (hb : Below w2.heap.size w2 w3) (h : PW w1 w2 b o br line x1 x2 x4 x6) : PW w1 w3 b o br line x1 x2 x4 x6 :=
  ⟨⟨cell_later' hb h.1.1, cell_later' hb h.1.2.1, cell_later' hb h.1.2.2.1, cell_later' hb h.1.2.2.2.1, cell_later' hb h.1.2.2.2.2⟩, h.2.out.trans (hb.mono h.2.out.size)⟩
theorem heldPW {w1 w2 : World} {b o br : Nat} {line : Int} {x1 x2 x4 x6 : Bl} (h : PW w1 w2 b o br line x1 x2 x4 x6) : Below w1.heap.size w1 w2 := h.2.out
theorem linePW {w1 w2 : World} {b o br : Nat} {line : Int} {x1 x2 x4 x6 : Bl} (h : PW w1 w2 b o br line x1 x2 x4 x6) : w2.cell? ⟨br, 0, none⟩ = some (.int .i64 line) := h.1.2.2.2.2
theorem keepPWset {w1 w2 : World} {b o br i : Nat} {line : Int} {x1 x2 x4 x6 : Bl} (h : PW w1 w2 b o br line x1 x2 x4 x6) (hb : b < w1.heap.size) (hr : br < w1.heap.size) (v : Value) : PW w1 (w2.setCell ⟨w1.heap.size, i, none⟩ v) b o br line x1 x2 x4 x6 :=
  have hne : ∀ {k j : Nat}, k < w1.heap.size → (w2.setCell ⟨w1.heap.size, i, none⟩ v).cell? ⟨k, j, none⟩ = w2.cell? ⟨k, j, none⟩ := fun hk => World.cell?_setCell_other _ _ _ _ (fun e => by cases e; exact Nat.lt_irrefl _ hk)
  ⟨⟨(hne hb).trans h.1.1, (hne hb).trans h.1.2.1, (hne hb).trans h.1.2.2.1, (hne hb).trans h.1.2.2.2.1, (hne hr).trans h.1.2.2.2.2⟩, h.2.out.setCell (Nat.le_refl _) v⟩
theorem boxQ {w wT : World} (hb : Below (w.alloc (.cells #[.string ⟨#[]⟩, .int .i64 0, .int .i64 0, .int .i64 0] 63)).drew.heap.size (w.alloc (.cells #[.string ⟨#[]⟩, .int .i64 0, .int .i64 0, .int .i64 0] 63)).drew wT) : (wT.cell? ⟨w.heap.size, 0, none⟩ = some (.string ⟨#[]⟩) ∧ wT.cell? ⟨w.heap.size, 1, none⟩ = some (.int .i64 0) ∧ wT.cell? ⟨w.heap.size, 2, none⟩ = some (.int .i64 0) ∧ wT.cell? ⟨w.heap.size, 3, none⟩ = some (.int .i64 0) ∧ ∀ o, wT.frozen? ⟨w.heap.size, o, none⟩ = false) ∧ w.heap.size < wT.heap.size := by
  have q0 := cell_later' hb (show (w.alloc (.cells #[.string ⟨#[]⟩, .int .i64 0, .int .i64 0, .int .i64 0] 63)).drew.cell? ⟨w.heap.size, 0, none⟩ = _ from new_cell w #[.string ⟨#[]⟩, .int .i64 0, .int .i64 0, .int .i64 0] 63 0 _ rfl)
  refine ⟨⟨q0, cell_later' hb (new_cell w _ _ 1 _ rfl), cell_later' hb (new_cell w _ _ 2 _ rfl), cell_later' hb (new_cell w _ _ 3 _ rfl), fun o => ?_⟩, cell_lt q0⟩
  rw [hb.frozen (p := ⟨w.heap.size, o, none⟩) (by show w.heap.size < (w.alloc _).heap.size; simp)]
  simp [go_sem]
theorem readPiece_any (br base bp be bn : Nat) (z : Option Addr) (cz : Nat) (ws : List Bl) (line : Int) (pv jv : Value) (ps : List Pc) (js : List Jr) (w : World) (hn : ps.length ≤ 100000) (hs : ∀ x ∈ ws, x.length ≤ 1048576) (hl : ws.length ≤ 1048576) (hR : RBk base w br line pv jv ps js bp be bn) (hz : StrsAtR w z ws) :
    Calls Tryz.prog 101 #[.pointer (some ⟨br, 0, none⟩), .slice z ws.length cz] w (LinePost base br bp be bn pv jv line w (pieceL ⟨ps, js.map (·.jt)⟩ ws).1 (pieceL ⟨ps, js.map (·.jt)⟩ ws).2) := by
  obtain ⟨iP, hiP, hz0, hz1, hz2⟩ := info_parts infoPiece
  have HI := hide hiP
  have H0 := hide hz0
  have H1 := hide hz1
  have H2 := hide hz2
  have HR := hide hR
  have HZ := hide hz
  have HS := hide hs
  have HC := hide hR.c0
  have hlb := cell_lt hR.c0
  clear hiP hz0 hz1 hz2 hR hz hs
  generalize hNN : (⟨ps, js.map (·.jt)⟩ : Nt) = N
  have hps : N.pcs = ps := by rw [← hNN]
  subst hps
  have HJJ := hide (show js.map (·.jt) = N.jts by rw [← hNN])
  clear hNN
  by_cases h7 : ws.length = 7
  · obtain ⟨x0, x1, x2, x3, x4, x5, x6, rfl⟩ : ∃ x0 x1 x2 x3 x4 x5 x6, ws = [x0, x1, x2, x3, x4, x5, x6] := by
      match ws, h7 with
      | [x0, x1, x2, x3, x4, x5, x6], _ => exact ⟨x0, x1, x2, x3, x4, x5, x6, rfl⟩
    obtain ⟨b, o, rfl, c1⟩ := HZ.out 1 (by simp)
    obtain ⟨b', o', e2, c2⟩ := HZ.out 2 (by simp)
    obtain ⟨rfl, rfl⟩ : b = b' ∧ o = o' := by simpa using e2
    obtain ⟨b', o', e3, c3⟩ := HZ.out 3 (by simp)
    obtain ⟨rfl, rfl⟩ : b = b' ∧ o = o' := by simpa using e3
    obtain ⟨b', o', e4, c4⟩ := HZ.out 4 (by simp)
    obtain ⟨rfl, rfl⟩ : b = b' ∧ o = o' := by simpa using e4
    obtain ⟨b', o', e5, c5⟩ := HZ.out 5 (by simp)
    obtain ⟨rfl, rfl⟩ : b = b' ∧ o = o' := by simpa using e5
    obtain ⟨b', o', e6, c6⟩ := HZ.out 6 (by simp)
    obtain ⟨rfl, rfl⟩ : b = b' ∧ o = o' := by simpa using e6
    simp only [List.getElem_cons_succ, List.getElem_cons_zero] at c1 c2 c3 c4 c5 c6
    have hlc := cell_lt c1
    have hs1 : (sb x1).size ≤ 1048576 := by rw [sb_size]; exact HS.out x1 (by simp)
    have hs2 : x2.length ≤ 1048576 := HS.out x2 (by simp)
    have hs4 : x4.length ≤ 1048576 := HS.out x4 (by simp)
    have hs6 : x6.length ≤ 1048576 := HS.out x6 (by simp)
    have HNO := hide (show ¬ (x3 = speedB ∧ x5 = brakeB ∧ nm (sb x1) = true ∧ numOk x2 = true ∧ numOk x4 = true ∧ numOk x6 = true) → pieceL N [x0, x1, x2, x3, x4, x5, x6] = (1, N) from fun h => by
      unfold pieceL
      dsimp only
      rw [if_neg h])
    have HPW : Hid (PW w w.drew b o br line x1 x2 x4 x6) := keepPW ((Below.refl w.heap.size w).drew) ⟨⟨c1, c2, c4, c6, HC.out⟩, Below.refl _ _⟩
    clear e2 e3 e4 e5 e6 HS HZ h7 hl
    by_cases A : x3 = speedB
    · have g3 : ((sb x3).toList == [115, 112, 101, 101, 100]) = true := lit_eq A
      by_cases B : x5 = brakeB
      · have g5 : ((sb x5).toList == [98, 114, 97, 107, 101]) = true := lit_eq B
        have HN1 : Hid (nm (sb x1) = false → pieceL N [x0, x1, x2, x3, x4, x5, x6] = (1, N)) := fun C => HNO.out (fun h => by rw [C] at h; exact Bool.noConfusion h.2.2.1)
        have HN2 : Hid (numOk x2 = false → pieceL N [x0, x1, x2, x3, x4, x5, x6] = (1, N)) := fun C => HNO.out (fun h => by rw [C] at h; exact Bool.noConfusion h.2.2.2.1)
        have HN4 : Hid (numOk x4 = false → pieceL N [x0, x1, x2, x3, x4, x5, x6] = (1, N)) := fun C => HNO.out (fun h => by rw [C] at h; exact Bool.noConfusion h.2.2.2.2.1)
        have HN6 : Hid (numOk x6 = false → pieceL N [x0, x1, x2, x3, x4, x5, x6] = (1, N)) := fun C => HNO.out (fun h => by rw [C] at h; exact Bool.noConfusion h.2.2.2.2.2)
        have HYES := hide (show nm (sb x1) = true → numOk x2 = true → numOk x4 = true → numOk x6 = true → pieceL N [x0, x1, x2, x3, x4, x5, x6] = if (pieceIx N (sb x1)).isSome = false ∧ inR (valD x2) 1 10000000 = true ∧ inR (valD x4) 1 10000 = true ∧ inR (valD x6) 1 1000 = true then (0, ⟨N.pcs ++ [⟨sb x1, valD x2, valD x4, valD x6⟩], N.jts⟩) else (2, N) from fun C D2 D4 D6 => by
          unfold pieceL
          dsimp only
          rw [if_pos ⟨A, B, C, D2, D4, D6⟩])
        clear A B HNO
        generalize pieceL N [x0, x1, x2, x3, x4, x5, x6] = PL at *
        go_enter Tryz.func101, Tryz.ntmps101
        go_upto_region 1 with (first
          | (go_at_call 63; refine (want_ok _ _ _).mono ?_; rintro e w3 ⟨⟨v3, rfl⟩, hw⟩; subst hw))
        clear c1 c2 c3 c4 c5 c6
        go_cut [4] from 24 (fun s4 wx => ∃ bX, s4 = .pointer (some ⟨bX, 0, none⟩) ∧ wx.cell? ⟨bX, 0, none⟩ = some (.string (sb x1)) ∧ wx.cell? ⟨bX, 1, none⟩ = some (.int .i64 (valD x2)) ∧ wx.cell? ⟨bX, 2, none⟩ = some (.int .i64 (valD x4)) ∧ wx.cell? ⟨bX, 3, none⟩ = some (.int .i64 (valD x6)) ∧ Hid (Below w.heap.size w wx) ∧ Hid (nm (sb x1) = true) ∧ Hid (numOk x2 = true) ∧ Hid (numOk x4 = true) ∧ Hid (numOk x6 = true))
        case first =>
          go_region_held_law (fun wx => PW w wx b o br line x1 x2 x4 x6)
            (first
              | (with_reducible exact HPW.out)
              | (with_reducible assumption)
              | (exact keepPW (bS0 _ _) (by assumption))
              | (with_reducible exact HPT.out)
              | (exact keepPWset (keepPWset (keepPWset (keepPWset (by assumption) hlc hlb _) hlc hlb _) hlc hlb _) hlc hlb _))
            (first
              | (go_at_call 130; (with_reducible (refine calls_or (number_ex br x2 line _ hs2 (linePW (by assumption))) ?_ ?_)); (intro hno w9 hw9; subst hw9; rw [HN2.out hno]; exact ⟨rfl, linePost_no (show (1 : Int) ≠ 0 by decide) (heldPW (by assumption))⟩); (intro HD2 w9 hw9; subst hw9))
              | (go_at_call 130; (with_reducible (refine calls_or (number_ex br x4 line _ hs4 (linePW (by assumption))) ?_ ?_)); (intro hno w9 hw9; subst hw9; rw [HN4.out hno]; exact ⟨rfl, linePost_no (show (1 : Int) ≠ 0 by decide) (heldPW (by assumption))⟩); (intro HD4 w9 hw9; subst hw9))
              | (go_at_call 130; (with_reducible (refine calls_or (number_ex br x6 line _ hs6 (linePW (by assumption))) ?_ ?_)); (intro hno w9 hw9; subst hw9; rw [HN6.out hno]; exact ⟨rfl, linePost_no (show (1 : Int) ≠ 0 by decide) (heldPW (by assumption))⟩); (intro HD6 w9 hw9; subst hw9))
              | (go_at_call 129; refine calls_or (readName_any br (sb x1) line _ hs1 (linePW (by assumption))) ?_ ?_; (intro hno w3 hb3; rw [HN1.out hno]; exact ⟨rfl, linePost_no (show (1 : Int) ≠ 0 by decide) (chnB (heldPW (by assumption)) hb3)⟩); (intro HD1 wT hbT; have HPT : Hid (PW w wT b o br line x1 x2 x4 x6) := keepPW hbT (by assumption); (try (with_reducible (have hbq := boxQ hbT); (obtain ⟨⟨q0, q1, q2, q3, qf⟩, ql⟩ := hbq); have qf0 := qf 0; have qf1 := qf 1; have qf2 := qf 2; have qf3 := qf 3)); clear hbT)))
          all_goals
            have HBE := hide (heldPW (by assumption))
            go_wp2_with fail
            go_meet
            case rel => first
              | exact ⟨w.heap.size, rfl, by simp [go_sem, q0], by simp [go_sem, q1], by simp [go_sem, q2], by simp [go_sem, q3], HBE, HD1, HD2, HD4, HD6⟩
              | exact ⟨wT.heap.size, rfl, new_cell wT #[.string (sb x1), .int .i64 (valD x2), .int .i64 (valD x4), .int .i64 (valD x6)] 63 0 _ rfl, new_cell wT #[.string (sb x1), .int .i64 (valD x2), .int .i64 (valD x4), .int .i64 (valD x6)] 63 1 _ rfl, new_cell wT #[.string (sb x1), .int .i64 (valD x2), .int .i64 (valD x4), .int .i64 (valD x6)] 63 2 _ rfl, new_cell wT #[.string (sb x1), .int .i64 (valD x2), .int .i64 (valD x4), .int .i64 (valD x6)] 63 3 _ rfl, HBE, HD1, HD2, HD4, HD6⟩
        case rest =>
          obtain ⟨bX, rfl, b0, b1, b2, b3, HB, HD1, HD2, HD4, HD6⟩ := hcut
          rename World => w2
          have HPL := hide (HYES.out HD1.out HD2.out HD4.out HD6.out)
          clear HN1 HN2 HN4 HN6 HYES HPW
          have HR2 := hide (RBx.later HR.out HB.out)
          have d3 := HR2.out.c3
          have hld := cell_lt d3
          have hlX := cell_lt b0
          have hlk := (HR2.out.pi.of_block (w' := w2.drew) rfl).look (sb x1) (by unfold maxLen; omega)
          have hixe : pieceIx ⟨N.pcs, []⟩ (sb x1) = pieceIx N (sb x1) := rfl
          rw [hixe] at hlk
          have HIX := hide hixe
          clear hixe
          go_upto_region 2 with fail
          go_cut [5, 6] from 45 (fun s5 s6 wx => s5 = .int .i64 (ixP N.pcs (sb x1)) ∧ s6 = .bool (pieceIx N (sb x1)).isSome ∧ wx = w2.drew)
          case first =>
            go_region_law (fail)
            all_goals
              go_wp2_with fail
              go_meet
              case rel => exact ⟨rfl, rfl, rfl⟩
          case rest =>
            obtain ⟨rfl, rfl, hwx⟩ := hcut
            subst hwx
            clear hlk
            have HR3 := hide (RBx.later HR2.out ((Below.refl w2.heap.size w2).drew))
            have HB3 := hide (chnB HB.out ((Below.refl w2.heap.size w2).drew))
            have k0 : w2.drew.cell? ⟨bX, 0, none⟩ = some (.string (sb x1)) := b0
            have k1 : w2.drew.cell? ⟨bX, 1, none⟩ = some (.int .i64 (valD x2)) := b1
            have k2 : w2.drew.cell? ⟨bX, 2, none⟩ = some (.int .i64 (valD x4)) := b2
            have k3 : w2.drew.cell? ⟨bX, 3, none⟩ = some (.int .i64 (valD x6)) := b3
            clear b0 b1 b2 b3 d3 hld hlX HR2 HB
            generalize w2.drew = w3 at *
            have hlX := cell_lt k0
            have hOKe : Pc.ok ⟨sb x1, valD x2, valD x4, valD x6⟩ = (inR (valD x2) 1 10000000 && inR (valD x4) 1 10000 && inR (valD x6) 1 1000) := by
              unfold Pc.ok
              dsimp only
              rw [HD1.out]
              rfl
            have HOKE := hide hOKe
            clear hOKe
            cases hok : Pc.ok ⟨sb x1, valD x2, valD x4, valD x6⟩ with
            | false =>
              have HX := hide (show PL = (2, N) by
                rw [HPL.out, if_neg]
                rintro ⟨_, h2, h4, h6⟩
                rw [HOKE.out, h2, h4, h6] at hok
                cases hok)
              have HOK := hide hok
              clear hok
              go_wp2_with (first
                | (go_at_call 76; refine (pieceOk_any ⟨sb x1, valD x2, valD x4, valD x6⟩ _ hs1).mono ?_; rintro e w4 ⟨rfl, hb4⟩; rw [HOK.out]; have HC4 := hide (cell_later' hb4 HR3.out.c0); have HB4 := hide (chnB HB3.out hb4); clear hb4)
                | (go_at_call 63; refine (want_noR br 2 line _ HC4.out).mono ?_; rintro e w5 ⟨rfl, hw⟩; subst hw))
              rw [HX.out]
              exact ⟨rfl, linePost_no (show (2 : Int) ≠ 0 by decide) HB4.out⟩
            | true =>
              have HOK := hide hok
              clear hok
              cases hth : (pieceIx N (sb x1)).isSome with
              | true =>
                have HX := hide (show PL = (2, N) by
                  rw [HPL.out, if_neg]
                  rintro ⟨h1, _⟩
                  rw [hth] at h1
                  cases h1)
                clear hth
                go_wp2_with (first
                  | (go_at_call 76; refine (pieceOk_any ⟨sb x1, valD x2, valD x4, valD x6⟩ _ hs1).mono ?_; rintro e w4 ⟨rfl, hb4⟩; rw [HOK.out]; have HC4 := hide (cell_later' hb4 HR3.out.c0); have HB4 := hide (chnB HB3.out hb4); clear hb4)
                  | (go_at_call 63; refine (want_noR br 2 line _ HC4.out).mono ?_; rintro e w5 ⟨rfl, hw⟩; subst hw))
                rw [HX.out]
                exact ⟨rfl, linePost_no (show (2 : Int) ≠ 0 by decide) HB4.out⟩
              | false =>
                have HX := hide (show PL = (0, ⟨N.pcs ++ [⟨sb x1, valD x2, valD x4, valD x6⟩], N.jts⟩) by
                  have h := HOK.out
                  rw [HOKE.out, Bool.and_eq_true, Bool.and_eq_true] at h
                  rw [HPL.out, if_pos ⟨hth, h.1.1, h.1.2, h.2⟩])
                have HTH := hide hth
                clear hth HPL
                go_upto_region 4 with (first
                  | (go_at_call 76; refine (pieceOk_any ⟨sb x1, valD x2, valD x4, valD x6⟩ _ hs1).mono ?_; rintro e w4 ⟨rfl, hb4⟩; rw [HOK.out]; have HR4 := hide (RBx.later HR3.out hb4); have HB4 := hide (chnB HB3.out hb4); (have l0 := cell_later' hb4 k0); (have l1 := cell_later' hb4 k1); (have l2 := cell_later' hb4 k2); (have l3 := cell_later' hb4 k3); clear hb4)
                  | (go_at_call 63; refine (want_ok _ _ _).mono ?_; rintro e w5 ⟨⟨v5, rfl⟩, hw⟩; subst hw))
                clear k0 k1 k2 k3 hlX HR3 HB3
                obtain ⟨pa, pcap, rfl, hPA⟩ := pcs_at_of HR4.out.op
                clear hPA
                have d1 := HR4.out.c1
                have d3 := HR4.out.c3
                have hld := cell_lt d1
                have hlX := cell_lt l0
                obtain ⟨wP, hput, hPP, hgP⟩ := (HR4.out.pi.of_block (w' := w4.drew) rfl).put (by unfold maxLen; omega) ⟨sb x1, valD x2, valD x4, valD x6⟩ (by dsimp only; unfold maxLen; omega) (by omega) (by dsimp only; rw [HIX.out]; exact HTH.out)
                dsimp only at hput
                have hnbX : bX ≠ bp := cell_no_map l0 HR4.out.pi.isMap
                have HOP := hide (show On (· = bp) w4 wP from (On.of_below ((Below.refl w4.heap.size w4).drew)).trans (On.of_grown hgP (fun b e => (Option.some.inj e).symm)))
                have HRP := hide (HR4.out.turnP HOP.out hPP)
                have HONP := hide ((On.of_below (S := Chg br bp be bn (.slice pa N.pcs.length pcap) jv) HB4.out).trans (HOP.out.mono (fun b _ h => .inr (.inl h))))
                have m0 := HOP.out.cell hnbX l0
                have m1 := HOP.out.cell hnbX l1
                have m2 := HOP.out.cell hnbX l2
                have m3 := HOP.out.cell hnbX l3
                clear hPP hgP
                go_cut [] from 63 (fun wx => wx = wP)
                case first =>
                  clear m0 m1 m2 m3
                  go_region_law (fail)
                  all_goals
                    go_wp2_with fail
                    go_meet
                    case rel => rfl
                case rest =>
                  subst hcut
                  clear hput l0 l1 l2 l3 d1 d3 hld hlX
                  have d1 := HRP.out.c1
                  have hld := cell_lt d1
                  have hlX := cell_lt m0
                  have hml : N.pcs.length + 1 ≤ maxLen := by unfold maxLen; omega
                  have HNd := hide (RBx.later HRP.out (((Below.refl wc.heap.size wc).drew).alloc (by simp) (.cells #[.string (sb x1), .int .i64 (valD x2), .int .i64 (valD x4), .int .i64 (valD x6)] 63)))
                  have HKd := hide (show Below wc.heap.size wc (wc.drew.alloc (.cells #[.string (sb x1), .int .i64 (valD x2), .int .i64 (valD x4), .int .i64 (valD x6)] 63)) from ((Below.refl wc.heap.size wc).drew).alloc (by simp) _)
                  have hbs : base ≤ wc.heap.size + 1 := by have := HRP.out.hi; omega
                  go_upto_region 5 with fail
                  go_region_law (first
                    | (refine step_append_lies _ (by rfl) _ _ _ (by rfl) base 63 iP _ 4 40 Tryz.underlying23 HI.out H0.out H1.out H2.out rfl (by omega) (.slice pa N.pcs.length pcap) N.pcs.length (pcCells N.pcs) (by rfl) HNd.out.op ⟨_, 0, none⟩ 1 1 [.string (sb x1), .int .i64 (valD x2), .int .i64 (valD x4), .int .i64 (valD x6)] (by rfl) (by rfl) (World.news_of_block (heap_alloc_new _ _)) (by simp [Value.oneCell']) (by omega) hml (by omega) (by simp; omega) _ rfl ?_; intro g2 cp2 w7 hown2 hgrow2 _ _; have HO7 := hide hown2; have HG7 := hide hgrow2; have hx7 := HNd.out.keepRow HNd.out.op hgrow2; obtain ⟨x7, y7, f7, _, _, _, _⟩ := hx7; have f71 := f7 1))
                  all_goals
                    have HNN := hide (HNd.out.addP (p := ⟨sb x1, valD x2, valD x4, valD x6⟩) HG7.out HO7.out)
                    have HOO := hide (((HONP.out.trans (On.of_below HKd.out)).trans (on_rowP HG7.out)).trans (On.set w7 (S := Chg br bp be bn (.slice pa N.pcs.length pcap) jv) (b := br) (o := 1) (.inl rfl) (.slice (some ⟨g2, 0, none⟩) (N.pcs.length + 1) cp2)))
                    go_wp2_with fail
                    (try simp only [Exit.inBlock, Exit.then])
                    refine bodyPost_ret (results_none rfl _ _ _) rfl ?_
                    rw [HX.out]
                    have HRK : RBk base (w7.setCell ⟨br, 1, none⟩ (.slice (some ⟨g2, 0, none⟩) (N.pcs.length + 1) cp2)) br line (.slice (some ⟨g2, 0, none⟩) (N.pcs.length + 1) cp2) jv (N.pcs ++ [⟨sb x1, valD x2, valD x4, valD x6⟩]) js bp be bn := by
                      unfold RBk
                      rw [List.length_append]
                      exact HNN.out
                    exact ⟨.inl ⟨rfl, ⟨_, rfl⟩, _, jv, js, HRK, HJJ.out⟩, HOO.out⟩
      · have HX := hide (HNO.out (fun h => B h.2.1))
        have g5 : ((sb x5).toList == [98, 114, 97, 107, 101]) = false := lit_ne B
        clear A B HNO
        go_enter Tryz.func101, Tryz.ntmps101
        go_wp2_with (first
          | (go_at_call 63; refine (want_noR br 1 line _ HC.out).mono ?_; rintro e w3 ⟨rfl, hw⟩; subst hw))
        rw [HX.out]
        exact ⟨rfl, linePost_no (show (1 : Int) ≠ 0 by decide) (Below.refl _ _)⟩
    · have HX := hide (HNO.out (fun h => A h.1))
      have g3 : ((sb x3).toList == [115, 112, 101, 101, 100]) = false := lit_ne A
      clear A HNO
      go_enter Tryz.func101, Tryz.ntmps101
      go_wp2_with (first
        | (go_at_call 63; refine (want_noR br 1 line _ HC.out).mono ?_; rintro e w3 ⟨rfl, hw⟩; subst hw))
      rw [HX.out]
      exact ⟨rfl, linePost_no (show (1 : Int) ≠ 0 by decide) (Below.refl _ _)⟩
  · have HX := hide (show pieceL N ws = (1, N) by
      unfold pieceL
      split
      · exact absurd rfl h7
      · rfl)
    have g7 : ((ws.length : Int) == 7) = false := by rw [beq_eq_false_iff_ne]; omega
    clear h7
    go_enter Tryz.func101, Tryz.ntmps101
    go_wp2_with (first
      | (go_at_call 63; refine (want_noR br 1 line _ HC.out).mono ?_; rintro e w3 ⟨rfl, hw⟩; subst hw))
    rw [HX.out]
    exact ⟨rfl, linePost_no (show (1 : Int) ≠ 0 by decide) (Below.refl _ _)⟩
end Go.Proofs.YtcodpnkfpmjleaaGreatDoor
