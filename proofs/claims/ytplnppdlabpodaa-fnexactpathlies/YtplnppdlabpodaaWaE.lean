/- liesFor, impl.PathLies. Own work. -/
import Derived.Test.YtplnppdlabpodaaWaD
import Derived.Laws.BitsLemmas
namespace Go.Proofs.Ytplnppdlabpodaa
open Go.RowKit
set_option maxHeartbeats 8000000

/-- What a round of liesFor reads. -/
abbrev LG (wr wx : World) (bl m : Nat) (v0 v1 : Value) (sb o1 o2 : Nat) (s1 s2 t1 t2 : Int) : Prop :=
  ((wx.cell? ⟨bl, 0, none⟩ = some v0 ∧ wx.cell? ⟨bl, 1, none⟩ = some v1 ∧ wx.cell? ⟨bl, 2, none⟩ = some (.map (some m))) ∧ wx.cell? ⟨sb, o1, none⟩ = some (.int .i64 s1) ∧ wx.cell? ⟨sb, o1 + 1, none⟩ = some (.int .i64 s2) ∧ wx.cell? ⟨sb, o2, none⟩ = some (.int .i64 t1) ∧ wx.cell? ⟨sb, o2 + 1, none⟩ = some (.int .i64 t2)) ∧ Hid (Below wr.heap.size wr wx)
theorem keepLG {wr w2 w3 : World} {bl m : Nat} {v0 v1 : Value} {sb o1 o2 : Nat} {s1 s2 t1 t2 : Int} (hb : Below w2.heap.size w2 w3) (h : LG wr w2 bl m v0 v1 sb o1 o2 s1 s2 t1 t2) : LG wr w3 bl m v0 v1 sb o1 o2 s1 s2 t1 t2 :=
  ⟨⟨⟨cell_later' hb h.1.1.1, cell_later' hb h.1.1.2.1, cell_later' hb h.1.1.2.2⟩, cell_later' hb h.1.2.1, cell_later' hb h.1.2.2.1, cell_later' hb h.1.2.2.2.1, cell_later' hb h.1.2.2.2.2⟩, h.2.out.trans (hb.mono h.2.out.size)⟩
theorem putLG {wr w2 : World} {bl m : Nat} {v0 v1 : Value} {sb o1 o2 : Nat} {s1 s2 t1 t2 : Int} {b : Nat} (hb : wr.heap.size ≤ b) (h1 : bl < wr.heap.size) (h2 : sb < wr.heap.size) (h : LG wr w2 bl m v0 v1 sb o1 o2 s1 s2 t1 t2) (x y : Value) : LG wr ((w2.setCell ⟨b, 0, none⟩ x).setCell ⟨b, 1, none⟩ y) bl m v0 v1 sb o1 o2 s1 s2 t1 t2 := by
  have e : ∀ (W : World) (o : Nat) (v : Value) (d i : Nat) (u : Value), d < wr.heap.size → W.cell? ⟨d, i, none⟩ = some u → (W.setCell ⟨b, o, none⟩ v).cell? ⟨d, i, none⟩ = some u := fun W o v d i u hd hu => by
    rw [World.cell?_setCell_far W ⟨b, o, none⟩ ⟨d, i, none⟩ v (by show b ≠ d; omega)]; exact hu
  exact ⟨⟨⟨e _ _ _ _ _ _ h1 (e _ _ _ _ _ _ h1 h.1.1.1), e _ _ _ _ _ _ h1 (e _ _ _ _ _ _ h1 h.1.1.2.1), e _ _ _ _ _ _ h1 (e _ _ _ _ _ _ h1 h.1.1.2.2)⟩, e _ _ _ _ _ _ h2 (e _ _ _ _ _ _ h2 h.1.2.1), e _ _ _ _ _ _ h2 (e _ _ _ _ _ _ h2 h.1.2.2.1), e _ _ _ _ _ _ h2 (e _ _ _ _ _ _ h2 h.1.2.2.2.1), e _ _ _ _ _ _ h2 (e _ _ _ _ _ _ h2 h.1.2.2.2.2)⟩, (h.2.out.setCell (by show wr.heap.size ≤ b; omega) _).setCell (by show wr.heap.size ≤ b; omega) _⟩
/-- A struct of two zeros that was made. -/
abbrev Zero2 (w : World) (b : Nat) : Prop := (w.cell? ⟨b, 0, none⟩ = some (.int .i64 0) ∧ w.cell? ⟨b, 1, none⟩ = some (.int .i64 0)) ∧ w.frozen? ⟨b, 0, none⟩ = false ∧ w.frozen? ⟨b, 1, none⟩ = false
theorem zero2_of {w w1 : World} {T : TypeId} (hb : Below (w.alloc (.cells #[.int .i64 0, .int .i64 0] T)).drew.heap.size (w.alloc (.cells #[.int .i64 0, .int .i64 0] T)).drew w1) : Zero2 w1 w.heap.size :=
  ⟨⟨box_cell_d hb 0 _ rfl, box_cell_d hb 1 _ rfl⟩, box_frozen_d hb 0, box_frozen_d hb 1⟩
theorem in2_put {w : World} {b : Nat} (h : Zero2 w b) (x y : Int) : ((w.setCell ⟨b, 0, none⟩ (.int .i64 x)).setCell ⟨b, 1, none⟩ (.int .i64 y)).cell? ⟨b, 0, none⟩ = some (.int .i64 x) ∧ ((w.setCell ⟨b, 0, none⟩ (.int .i64 x)).setCell ⟨b, 1, none⟩ (.int .i64 y)).cell? ⟨b, 1, none⟩ = some (.int .i64 y) := by
  obtain ⟨⟨h0, h1⟩, _⟩ := h
  exact ⟨by simp [go_sem, h0], by simp [go_sem, h1]⟩

theorem liesQ_of {N : Nt} {ss : List (Int × Int)} (h1 : netOk N = (0, 0)) (h2 : stepsP N ss = true) : liesQ N ss = liesTo N ss (ss.length - 1) := by
  unfold liesQ; rw [if_pos ⟨h1, h2⟩]
theorem liesQ_none {N : Nt} {ss : List (Int × Int)} {k : Nat} (h1 : netOk N = (0, 0)) (h2 : stepsP N ss = true) (hk : k + 1 < ss.length) (h : liesTo N ss (k + 1) = none) : liesQ N ss = none := by
  rw [liesQ_of h1 h2]
  have := liesTo_none h (ss.length - 1 - (k + 1))
  rw [show k + 1 + (ss.length - 1 - (k + 1)) = ss.length - 1 by omega] at this
  exact this
theorem lieCells_add (out : List (Int × Int)) (j l : Int) : lieCells (out ++ [(j, l)]) = lieCells out ++ [.int .i64 j, .int .i64 l] := by simp [lieCells]

set_option maxRecDepth 20000 in
theorem liesFor_any (a a' z : Option Addr) (N : Nt) (cap cap' zc : Nat) (ss : List (Int × Int)) (w : World) (hn : N.pcs.length ≤ 1048576) (hs : ∀ p ∈ N.pcs, p.name.size ≤ 1048576) (hl : N.jts.length ≤ 1048576) (hm : ∀ j ∈ N.jts, j.name.size ≤ 1048576 ∧ j.ends.length ≤ 1048576) (hx : ss.length ≤ 1048576) (hp : PcsAt w a N.pcs) (hj : JtsAt w a' N.jts) (hz : EndsAt w z ss) :
    Calls Try.prog 100 #[.agg #[.slice a N.pcs.length cap, .slice a' N.jts.length cap'], .slice z ss.length zc] w fun e w' =>
    ∃ v ok, e = .returned (.tuple #[v, .bool ok]) ∧ LiesR N ss w.heap.size v ok w' ∧ Below w.heap.size w w' := by
  obtain ⟨i0, hi, hz0, hz1, hz2⟩ := info_parts infoLie
  have HI := hide hi
  have HZ0 := hide hz0
  have HZ1 := hide hz1
  have HZ2 := hide hz2
  have HP := hide hp
  have HJ := hide hj
  have HZ := hide hz
  have HM := hide hm
  have HS := hide hs
  have HME := hide (fun j (hj : j ∈ N.jts) => (HM.out j hj).2)
  clear hi hz0 hz1 hz2 hp hj hz hm hs
  have hbW : Below w.heap.size w (w.alloc (.cells #[.slice a N.pcs.length cap, .slice a' N.jts.length cap'] 33)) := (Below.refl _ _).alloc (Nat.le_refl _) _
  have t0 := new_cell w #[.slice a N.pcs.length cap, .slice a' N.jts.length cap'] 33 0 _ rfl
  have t1 := new_cell w #[.slice a N.pcs.length cap, .slice a' N.jts.length cap'] 33 1 _ rfl
  go_enter Try.func100, Try.ntmps100
  go_upto_region 1 with fail
  generalize w.alloc (.cells #[.slice a N.pcs.length cap, .slice a' N.jts.length cap'] 33) = w1 at *
  go_wp2_with fail
  refine (implNetOk_any a a' N cap cap' _ hn HS.out hl HM.out (HP.out.later hbW) (HJ.out.later hbW)).mono ?_
  rintro e w2 ⟨rfl, hb2⟩
  have hbW := hbW.trans (hb2.mono hbW.size)
  have t0 := cell_later' hb2 t0
  have t1 := cell_later' hb2 t1
  clear hb2
  by_cases hr : netOk N = (0, 0)
  · rw [hr]
    have HRT := hide hr
    clear hr
    dsimp only
    go_wp2_with fail
    refine (stepsOk_any N.pcs.length z zc ss _ hn hx (HZ.out.later hbW)).mono ?_
    rintro e w3 ⟨rfl, hb3⟩
    have hbW := hbW.trans (hb3.mono hbW.size)
    have t0 := cell_later' hb3 t0
    have t1 := cell_later' hb3 t1
    clear hb3
    generalize hsp : (decide (ss.length ≤ 400) && ss.all (stepOk N.pcs.length)) = sp
    have HSP := hide (show stepsP N ss = sp from hsp)
    clear hsp
    cases sp
    · go_wp2_with fail
      go_ret2
      exact ⟨_, false, rfl, Or.inl ⟨by unfold liesQ; rw [if_neg (by rw [HSP.out]; simp)], rfl, rfl⟩, hbW⟩
    have h400 := HSP.out
    simp only [stepsP, Bool.and_eq_true, decide_eq_true_eq] at h400
    have HALL := hide h400.2
    have h400 := h400.1
    have HW := hide (ends_wf hn (right_facts HRT.out).2.2.1)
    go_wp2_with fail
    refine (layoutOf_any a a' N cap cap' _ hl HME.out HW.out (HJ.out.later hbW)).mono ?_
    rintro e w4 ⟨m, n, rfl, hSE, hm1, hb4⟩
    have hbW := hbW.trans (hb4.mono hbW.size)
    have t0 := cell_later' hb4 t0
    have t1 := cell_later' hb4 t1
    have hs34 := hb4.size
    have hlm := hSE.lt
    have hw4 := hbW.size
    clear hb4
    have hmk := run_make_rows (P := Try.prog) 57 3 _ _ _ Try.underlying57 info_Int N.jts.length (by omega) (by omega)
    have HSE := hide hSE
    clear hSE
    have hwt := cell_lt t0
    go_wp2_with fail
    have HL0 : Hid (LF w ((w4.alloc (.cells #[.slice a N.pcs.length cap, .slice a' N.jts.length cap', .map (some m)] 173)).alloc (.cells (madeCells #[.int .i64 0] N.jts.length) 3)) w4.heap.size (w4.heap.size + 1) (w4.heap.size + 1 + 1) m n N (.slice a N.pcs.length cap) (.slice a' N.jts.length cap') (fun _ => 0)) := by
      refine ⟨by simp [go_sem], by simp [go_sem], by simp [go_sem], ⟨_, ?_, fun j _ => rfl⟩, ?_, ?_, by simp, hw4, by omega, by omega, by omega, by omega, by omega, by omega⟩
      · have h := World.rowIs_made (w4.alloc (.cells #[.slice a N.pcs.length cap, .slice a' N.jts.length cap', .map (some m)] 173)) (.int .i64 0) N.jts.length 3
        rw [World.size_alloc] at h
        exact h
      · exact (HSE.out.of_block (Below.heap_alloc _ _ _ HSE.out.lt)).of_block (Below.heap_alloc _ _ _ (by simp; omega))
      · exact (hbW.alloc hbW.size _).alloc (by simp; omega) _
    generalize ((w4.alloc (.cells #[.slice a N.pcs.length cap, .slice a' N.jts.length cap', .map (some m)] 173)).alloc (.cells (madeCells #[.int .i64 0] N.jts.length) 3)) = W0 at HL0 ⊢
    generalize w4.heap.size = bl at HL0 ⊢
    clear hmk HSE hbW t0 t1 hwt hs34 hlm hw4 hm1
    go_loopw [8, 9, 10, 11] (fun v i _ _ wr => ∃ (k t : Nat) (out : List (Int × Int)) (kn : Nat → Int), i = .int .i64 t ∧ Hid (t = k + 1) ∧ (k + 1 ≤ ss.length ∨ k = 0) ∧ out.length ≤ k ∧ Hid (liesTo N ss k = some out) ∧ Hid (KnownIs N out kn) ∧ Hid (wr.ownsRow (bl + 1 + 1) 132 2 v out.length (lieCells out)) ∧ Hid (LF w wr bl (bl + 1) (bl + 1 + 1) m n N (.slice a N.pcs.length cap) (.slice a' N.jts.length cap') kn)) (fun _ i _ _ _ => ss.length - (intOf i).toNat)
    case atStart => exact ⟨0, 1, [], fun _ => 0, rfl, rfl, by omega, by simp, rfl, known_nil N, World.ownsRow_nil _ _ _ _, HL0.out⟩
    case round =>
      obtain ⟨k, t, out, kn, rfl, HT, hk1, hol, HTO, HKN, HOW, HLF⟩ := hrel
      by_cases hlt : t < ss.length
      · have hkl : k < ss.length := by have := HT.out; omega
        obtain ⟨sb, so, rfl, c0, c1⟩ := (EndsAt.later HZ.out HLF.out.below) k hkl
        obtain ⟨sb', so', hsb, d0, d1⟩ := (EndsAt.later HZ.out HLF.out.below) t hlt
        obtain ⟨rfl, rfl⟩ : sb = sb' ∧ so = so' := by simpa using hsb
        have hgk : ss[k]! = ss[k] := by simp [hkl]
        have hA := HALL.out
        rw [List.all_eq_true] at hA
        have HO1 := hide (hA ss[k] (List.getElem_mem hkl))
        have HO2 := hide (hA ss[t] (List.getElem_mem hlt))
        obtain ⟨s1, s2, hes⟩ : ∃ s1 s2, ss[k] = (s1, s2) := ⟨_, _, rfl⟩
        obtain ⟨t1, t2, het⟩ : ∃ t1 t2, ss[t] = (t1, t2) := ⟨_, _, rfl⟩
        rw [hes] at c0 c1 HO1 hgk
        rw [het] at d0 d1 HO2
        have hgk1 : ss[k + 1]! = (t1, t2) := by rw [← HT.out]; simp [hlt, het]
        dsimp only at c0 c1 d0 d1
        have HG := hide (And.intro hgk hgk1)
        have hki : (k : Int) < (ss.length : Int) := by omega
        have hki1 : (t : Int) < (ss.length : Int) := by omega
        have hwk : IntKind.i64.wrap ((t : Int) - 1) = (k : Int) := by have := HT.out; rw [IntKind.wrap_i64]; omega
        have hbl := cell_lt HLF.out.c0
        have hsbl := cell_lt c0
        have hszr := HLF.out.size
        have HLG : Hid (LG wr wr bl m (.slice a N.pcs.length cap) (.slice a' N.jts.length cap') sb (so + k * 2) (so + t * 2) s1 s2 t1 t2) := ⟨⟨⟨HLF.out.c0, HLF.out.c1, HLF.out.c2⟩, c0, c1, d0, d1⟩, Below.refl _ _⟩
        clear hsb hA hgk hgk1 c0 c1 d0 d1 hes het
        go_upto_region 9 with fail
        go_cut [10, 11] from 30 to 72 (fun s10 s11 wx => ∃ (b10 : Nat) (x y : Int) (ok : Bool), s10 = .pointer (some ⟨b10, 0, none⟩) ∧ s11 = .bool ok ∧ (wx.cell? ⟨b10, 0, none⟩ = some (.int .i64 x) ∧ wx.cell? ⟨b10, 1, none⟩ = some (.int .i64 y)) ∧ BQ N (s1, s2) (t1, t2) x y ok ∧ Below wr.heap.size wr wx ∧ wr.heap.size ≤ b10)
        case first =>
          go_region_held3 (fun wx => LG wr wx bl m (.slice a N.pcs.length cap) (.slice a' N.jts.length cap') sb (so + k * 2) (so + t * 2) s1 s2 t1 t2)
            (first
              | (exact keepLG ((Below.refl wr.heap.size wr).drew) HLG.out)
              | (exact keepLG (((Below.refl wr.heap.size wr).alloc (Nat.le_refl _) _).drew) HLG.out)
              | (exact HGB.out)
              | (exact keepLG ((Below.refl wB.heap.size wB).alloc (Nat.le_refl _) _) HGB.out)
              | (exact putLG (by omega) hbl hsbl HGB.out _ _))
            (first
              | (go_at_call 128; refine (between_one _ _ N _ _ m n s1 s2 t1 t2 _ HRT.out hn HO1.out HO2.out (HJ.out.later (HLF.out.later (heldB (by assumption))).below) (HLF.out.later (heldB (by assumption))).se).mono ?_; rintro e wB ⟨x, y, ok, rfl, hBQ, hbB⟩; have HGB : Hid (LG wr wB bl m (.slice a N.pcs.length cap) (.slice a' N.jts.length cap') sb (so + k * 2) (so + t * 2) s1 s2 t1 t2) := keepLG hbB (by assumption); have HBQ := hide hBQ; have sB : wr.heap.size ≤ wB.heap.size := (heldB HGB.out).size; try (have y2 : Zero2 wB wr.heap.size := zero2_of hbB; obtain ⟨⟨y0, y1⟩, f0, f1⟩ := y2)))
          all_goals
            rename_i hHS
            have hbx := heldB hHS
            go_wp2_with fail
            go_meet
            first
              | exact ⟨_, x, y, ok, rfl, rfl, in2_put ⟨⟨y0, y1⟩, f0, f1⟩ x y, HBQ.out, hbx, by omega⟩
              | exact ⟨_, x, y, ok, rfl, rfl, ⟨new_cell wB _ _ 0 _ rfl, new_cell wB _ _ 1 _ rfl⟩, HBQ.out, hbx, by omega⟩
        case rest =>
          obtain ⟨b10, x, y, ok, rfl, rfl, ⟨x0, x1⟩, hBQ, hb5, hb10⟩ := hcut
          rename World => w5
          have HLF5 := hide (HLF.out.later hb5)
          have HOW5 := hide (owns_later' HOW.out hb5)
          have hB5 := HLF5.out.below
          have hs5 := hb5.size
          clear hb5 HLF HOW HLG
          rcases hBQ with ⟨rfl, hno⟩ | ⟨rfl, j, hj, rfl, hwant, h3, h3', hy0, hy2⟩
          · have HNO := hide (liesQ_none HRT.out HSP.out (by have := HT.out; omega) (liesTo_no HTO.out (by rw [HG.out.1, HG.out.2]; exact hno)))
            clear hno
            go_wp2_with fail
            go_ret2
            exact ⟨_, false, rfl, Or.inl ⟨HNO.out, rfl, rfl⟩, hB5⟩
          · have HWT := hide (show liesTo N ss (k + 1) = lieAdd out j y from liesTo_succ HTO.out (by rw [HG.out.1, HG.out.2]; exact hwant))
            have HH3 := hide (And.intro h3 h3')
            clear hwant h3 h3'
            obtain ⟨f, hf, hfk⟩ := HLF5.out.row
            have r0 := hf.cell (i := j) hj
            have z0 := hf.frozen j
            rw [hfk j hj] at r0
            clear hf hfk
            have hji : (j : Int) < (N.jts.length : Int) := by omega
            have hk2 : k + 1 < ss.length := by have := HT.out; omega
            by_cases e1 : kn j = y
            · have q1 : (kn j == y) = true := by rw [beq_iff_eq]; exact e1
              have HN := hide (show liesTo N ss (k + 1) = some out by rw [HWT.out, ← e1]; exact known_same HKN.out hj)
              clear e1
              go_wp2_with fail
              refine ⟨⟨k + 1, t + 1, out, kn, by go_num, (by have := HT.out; show t + 1 = k + 1 + 1; omega), by omega, by omega, HN.out, HKN.out, HOW5.out, HLF5.out⟩, by simp [intOf]; omega⟩
            · have q1 : (kn j == y) = false := by rw [beq_eq_false_iff_ne]; exact e1
              have H1 := hide e1
              clear e1
              by_cases e0 : kn j = 0
              · have q0 : (kn j == 0) = true := by rw [beq_iff_eq]; exact e0
                have hyne : ¬ y = 0 := fun h => H1.out (by rw [e0, h])
                obtain ⟨hadd, hkn⟩ := known_new HKN.out hj e0 hyne (HH3.out.2 hyne)
                have HADD := hide (show liesTo N ss (k + 1) = some (out ++ [((j : Int), y)]) by rw [HWT.out]; exact hadd)
                have HKN2 := hide hkn
                clear hadd hkn e0
                have HLF6 := hide (HLF5.out.set j y)
                have HOW6 := hide (ownsRow_setCell_below HOW5.out (a := (⟨bl + 1, j, none⟩ : Addr)) (show bl + 1 < bl + 1 + 1 by omega) (.int .i64 y))
                have x0' : (w5.setCell ⟨bl + 1, j, none⟩ (.int .i64 y)).cell? ⟨b10, 0, none⟩ = some (.int .i64 j) := by
                  rw [World.cell?_setCell_far w5 ⟨bl + 1, j, none⟩ ⟨b10, 0, none⟩ _ (by show bl + 1 ≠ b10; omega)]; exact x0
                have x1' : (w5.setCell ⟨bl + 1, j, none⟩ (.int .i64 y)).cell? ⟨b10, 1, none⟩ = some (.int .i64 y) := by
                  rw [World.cell?_setCell_far w5 ⟨bl + 1, j, none⟩ ⟨b10, 1, none⟩ _ (by show bl + 1 ≠ b10; omega)]; exact x1
                have HLT := hide (fun g h => (HOW6.out.lt g h).1)
                have hs6 := HLF6.out.size
                have hml : out.length + 1 ≤ maxLen := by unfold maxLen; omega
                go_upto_region 17 with fail
                generalize w5.setCell ⟨bl + 1, j, none⟩ (.int .i64 y) = w6 at *
                clear x0 x1 r0 z0
                go_wp2_with (first
                  | (at_builtin; (refine wpList_append_lies _ rfl _ _ _ rfl (bl + 1 + 1) 132 i0 _ 2 16 Try.underlying78 HI.out HZ0.out HZ1.out HZ2.out rfl (by omega) u8 out.length (lieCells out) rfl (HOW6.out.alloc _) ⟨w6.heap.size, 0, none⟩ 1 1 [.int .i64 j, .int .i64 y] rfl rfl (news_at rfl) (by simp [Value.oneCell']) (by omega) hml (by omega) (by simp; omega) _ rfl ?_); intro g2 c2 w7 hown2 hgrow2 _ hlt2))
                have HLF7 := hide ((HLF6.out.later ((Below.refl _ _).alloc (Nat.le_refl _) _)).grown hgrow2 HLT.out)
                refine ⟨⟨k + 1, t + 1, out ++ [((j : Int), y)], _, by go_num, (by have := HT.out; show t + 1 = k + 1 + 1; omega), by omega, by simp; omega, HADD.out, HKN2.out, ?_, HLF7.out⟩, by simp [intOf]; omega⟩
                show World.ownsRow _ _ _ _ _ _ _
                rw [lieCells_add, List.length_append]
                exact hown2
              · have q0 : (kn j == 0) = false := by rw [beq_eq_false_iff_ne]; exact e0
                have HNO := hide (liesQ_none HRT.out HSP.out hk2 (by rw [HWT.out]; exact known_not HKN.out hj e0 H1.out HH3.out.1))
                clear e0
                go_wp2_with fail
                go_ret2
                exact ⟨_, false, rfl, Or.inl ⟨HNO.out, rfl, rfl⟩, hB5⟩
      · have HLQ := hide (show liesQ N ss = some out by
          rw [liesQ_of HRT.out HSP.out, show ss.length - 1 = k by have := HT.out; omega]
          exact HTO.out)
        have HB := hide HLF.out.below
        have hbl := HLF.out.wl
        go_wp2_with fail
        go_ret2
        exact ⟨_, true, rfl, Or.inr ⟨out, HLQ.out, rfl, by have := HT.out; omega, owns_low HOW.out (by omega)⟩, HB.out⟩
  · obtain ⟨x, y, hxy⟩ : ∃ x y, netOk N = (x, y) := ⟨_, _, rfl⟩
    have hx0 : (x == 0) = false := by
      have := @netOk_code N
      rw [hxy] at this
      rw [this, decide_eq_false_iff_not, ← hxy]
      exact hr
    have HR := hide hr
    rw [hxy]
    dsimp only
    clear hr hxy
    go_wp2_with fail
    go_ret2
    exact ⟨_, false, rfl, Or.inl ⟨by unfold liesQ; rw [if_neg (fun h => HR.out h.1)], rfl, rfl⟩, hbW⟩

theorem implPathLies_any (a a' z : Option Addr) (N : Nt) (cap cap' zc : Nat) (ss : List (Int × Int)) (w : World) (hn : N.pcs.length ≤ 1048576) (hs : ∀ p ∈ N.pcs, p.name.size ≤ 1048576) (hl : N.jts.length ≤ 1048576) (hm : ∀ j ∈ N.jts, j.name.size ≤ 1048576 ∧ j.ends.length ≤ 1048576) (hx : ss.length ≤ 1048576) (hp : PcsAt w a N.pcs) (hj : JtsAt w a' N.jts) (hz : EndsAt w z ss) :
    Calls Try.prog 57 #[.agg #[.slice a N.pcs.length cap, .slice a' N.jts.length cap'], .slice z ss.length zc] w fun e w' =>
    ∃ v, e = .returned v ∧ w'.ownsRow w.heap.size 132 2 v ((liesQ N ss).getD []).length (lieCells ((liesQ N ss).getD [])) ∧ ((liesQ N ss).getD []).length ≤ 400 ∧ Below w.heap.size w w' := by
  have HP := hide hp
  have HJ := hide hj
  have HZ := hide hz
  have HM := hide hm
  have HS := hide hs
  clear hp hj hz hm hs
  have hbW : Below w.heap.size w (w.alloc (.cells #[.slice a N.pcs.length cap, .slice a' N.jts.length cap'] 33)) := (Below.refl _ _).alloc (Nat.le_refl _) _
  go_enter Try.func57, Try.ntmps57
  go_wp2_with fail
  refine (liesFor_any a a' z N cap cap' zc ss _ hn HS.out hl HM.out hx (HP.out.later hbW) (HJ.out.later hbW) (HZ.out.later hbW)).mono ?_
  rintro e w1 ⟨v, ok, rfl, hR, hb1⟩
  have HB := hide (hbW.trans (hb1.mono hbW.size))
  have HR := hide hR
  have hsz := hbW.size
  clear hR hb1 hbW
  go_wp2_with fail
  go_ret
  refine ⟨v, rfl, ?_⟩
  rcases HR.out with ⟨h, rfl, _⟩ | ⟨out, h, _, hlen, how⟩
  · rw [h]; exact ⟨World.ownsRow_nil _ _ _ _, by simp, HB.out⟩
  · rw [h]; exact ⟨owns_low how hsz, hlen, HB.out⟩
end Go.Proofs.Ytplnppdlabpodaa
