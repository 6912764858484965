/- (*rounds).come, (*rounds).standing. Own work. -/
import Derived.Test.YtijdigdcmjdooaaGreatRcA
import Derived.Test.YtijdigdcmjdooaaGreatSxI
import Derived.Deep.RegionHeld3
import Derived.Deep.RegionLaw
import Derived.Deep.AppendLies
namespace Go.Proofs.YtijdigdcmjdooaaGreat
open Go.RowKit Go.Maps Go.Joins Go.Sort
set_option maxHeartbeats 8000000
set_option maxRecDepth 100000

theorem standing_any {N : Nt} {w0 : World} {v0 v1 : Value} {m nS bR mT nT : Nat} {dv : Value} {num : Int} {out : List (Int × Int × Int)} {line : List Dv} (w : World) (h : RS N w0 w v0 v1 m nS bR mT nT dv num out line) :
    Calls Tryz.prog 29 #[.pointer (some ⟨bR, 0, none⟩)] w fun e w' => e = .returned (.int .i64 (standP num out.length line.length)) ∧ w' = w := by
  obtain ⟨c0, c1, c2, c3, c4, c5⟩ := h.cells
  obtain ⟨z, c, rfl⟩ := dvs_form h.own
  have hlen := h.tm.len 3
  have hbl := cell_lt c0
  have HS := hide h
  clear h
  by_cases h1 : 200 < out.length
  · have q1 : decide ((out.length : Int) > 200) = true := decide_eq_true (by omega)
    have HR := hide (show standP num out.length line.length = 2 by simp [standP, h1])
    clear h1
    go_enter Tryz.func29, Tryz.ntmps29
    go_wp2_with fail
    go_ret
    exact ⟨ret_i HR.out.symm, rfl⟩
  · have q1 : decide ((out.length : Int) > 200) = false := decide_eq_false (by omega)
    by_cases h2 : 1000 < line.length
    · have q2 : decide ((line.length : Int) > 1000) = true := decide_eq_true (by omega)
      have HR := hide (show standP num out.length line.length = 2 by simp [standP, h2])
      clear h1 h2
      go_enter Tryz.func29, Tryz.ntmps29
      go_wp2_with fail
      go_ret
      exact ⟨ret_i HR.out.symm, rfl⟩
    · have q2 : decide ((line.length : Int) > 1000) = false := decide_eq_false (by omega)
      by_cases h3 : 1000 < num
      · have q3 : decide (num > 1000) = true := decide_eq_true (by omega)
        have HR := hide (show standP num out.length line.length = 2 by simp [standP, h3])
        clear h1 h2 h3
        go_enter Tryz.func29, Tryz.ntmps29
        go_wp2_with fail
        go_ret
        exact ⟨ret_i HR.out.symm, rfl⟩
      · have q3 : decide (num > 1000) = false := decide_eq_false (by omega)
        by_cases h4 : line.length = 0
        · have q4 : ((line.length : Int) == 0) = true := by rw [beq_iff_eq]; omega
          have HR := hide (show standP num out.length line.length = 1 by simp [standP, h1, h3, h4])
          clear h1 h2 h3 h4
          go_enter Tryz.func29, Tryz.ntmps29
          go_wp2_with fail
          go_ret
          exact ⟨ret_i HR.out.symm, rfl⟩
        · have q4 : ((line.length : Int) == 0) = false := by rw [beq_eq_false_iff_ne]; omega
          have HR := hide (show standP num out.length line.length = 0 by simp [standP, h1, h2, h3, h4])
          clear h1 h2 h3 h4
          go_enter Tryz.func29, Tryz.ntmps29
          go_wp2_with fail
          go_ret
          exact ⟨ret_i HR.out.symm, rfl⟩

/-- The drive's box and the layout. -/
abbrev CB (w1 wx : World) (bX bR m : Nat) (v0 v1 : Value) (q at' wy l : Int) : Prop :=
  (wx.cell? ⟨bX, 0, none⟩ = some (.int .i64 q) ∧ wx.cell? ⟨bX, 1, none⟩ = some (.int .i64 at') ∧ wx.cell? ⟨bX, 2, none⟩ = some (.int .i64 wy) ∧ wx.cell? ⟨bX, 3, none⟩ = some (.int .i64 l) ∧ wx.cell? ⟨bR, 0, none⟩ = some v0 ∧ wx.cell? ⟨bR, 1, none⟩ = some v1 ∧ wx.cell? ⟨bR, 2, none⟩ = some (.map (some m))) ∧ Hid (Below w1.heap.size w1 wx)
theorem keepCB {w1 w2 w3 : World} {bX bR m : Nat} {v0 v1 : Value} {q at' wy l : Int} (hb : Below w2.heap.size w2 w3) (h : CB w1 w2 bX bR m v0 v1 q at' wy l) : CB w1 w3 bX bR m v0 v1 q at' wy l :=
  ⟨⟨cell_later' hb h.1.1, cell_later' hb h.1.2.1, cell_later' hb h.1.2.2.1, cell_later' hb h.1.2.2.2.1, cell_later' hb h.1.2.2.2.2.1, cell_later' hb h.1.2.2.2.2.2.1, cell_later' hb h.1.2.2.2.2.2.2⟩, h.2.out.trans (hb.mono h.2.out.size)⟩
theorem heldCB {w1 w2 : World} {bX bR m : Nat} {v0 v1 : Value} {q at' wy l : Int} (h : CB w1 w2 bX bR m v0 v1 q at' wy l) : Below w1.heap.size w1 w2 := h.2.out
theorem wf_small9 {x : Int} (h : -1000000000 ≤ x) (h' : x ≤ 1000000000) : (Lit.int .i64 x).wf = true := by
  simp only [Lit.wf, IntKind.min, IntKind.max, IntKind.bits, IntKind.signed, Bool.and_eq_true, decide_eq_true_eq]
  simp
  omega
theorem wrap_wf9 (x : Int) : (Lit.int .i64 (IntKind.i64.wrap x)).wf = true := by
  rw [IntKind.wrap_i64]
  simp only [Lit.wf, IntKind.min, IntKind.max, IntKind.bits, IntKind.signed, Bool.and_eq_true, decide_eq_true_eq]
  simp
  omega
theorem wfS_of {N : Nt} (hr : netOk N = (0, 0)) {s : Int × Int × Int} (h : spotS N s = true) : WfS s := by
  have hs := spot_facts h
  have hl := lenAt_pos hr s.1 hs.1 hs.2.1
  have hp : (N.pcs.length : Int) ≤ 100 := by
    have a3 := (right_facts hr).1
    simp only [sizeBad, Bool.or_eq_false_iff, decide_eq_false_iff_not] at a3
    omega
  exact ⟨wf_small9 (by omega) (by omega), wf_small9 (by omega) (by omega), wf_small9 (by omega) (by omega)⟩
theorem come_any {N : Nt} {w0 : World} (a a' : Option Addr) (cap cap' : Nat) {m nS bR mT nT : Nat} {dv : Value} {num : Int} {out : List (Int × Int × Int)} {line : List Dv} {F : Int} (x : Dv) (w : World) (hr : netOk N = (0, 0)) (hF : F ≤ 1000000) (hx : DvOk N F x) (hP : PcsAt w0 a N.pcs)
    (h : RS N w0 w (.slice a N.pcs.length cap) (.slice a' N.jts.length cap') m nS bR mT nT dv num out line) (hnT : nT < 1000000000) (hll : line.length ≤ 100000) :
    Calls Tryz.prog 28 #[.pointer (some ⟨bR, 0, none⟩), .agg #[.int .i64 x.1.1, .int .i64 x.1.2.1, .int .i64 x.1.2.2, .int .i64 x.2]] w fun e w' => e = .returned (.tuple #[]) ∧ ∃ dv' nT', RS N w0 w' (.slice a N.pcs.length cap) (.slice a' N.jts.length cap') m nS bR mT nT' dv' num (comeR N (out, line) x).1 (comeR N (out, line) x).2 ∧ Kept3 bR mT dv.ownBlock w w' ∧ NewOwn w dv.ownBlock dv'.ownBlock ∧ nT' ≤ nT + 1 := by
  obtain ⟨i0, hi, hz0, hz1, hz2⟩ := info_parts infoGoing
  have HI := hide hi
  have HZ0 := hide hz0
  have HZ1 := hide hz1
  have HZ2 := hide hz2
  have HTO := hide (fun he => wfS_of hr (told_ok hx he))
  have hsf := spot_facts hx.spot
  have hlf := hx.left
  obtain ⟨⟨q, at', wy⟩, l⟩ := x
  dsimp only at hsf hlf ⊢
  have HN := hide h
  have HP := hide hP
  obtain ⟨k, rfl⟩ := Int.eq_ofNat_of_zero_le hsf.1
  have hkl : k < N.pcs.length := by omega
  have hlen := lenAt_pos hr k (by omega) (by omega)
  have HLN := hide (lenAt_nat N k hkl)
  rw [HLN.out] at hsf hlen
  have hsw := hsf.2.2.1
  have hrm : 0 ≤ roomP N k at' wy ∧ roomP N k at' wy ≤ 10000000 := by
    unfold roomP
    rw [HLN.out]
    split <;> omega
  have hA := (Below.refl w.heap.size w).alloc (Nat.le_refl _) (.cells #[.int .i64 k, .int .i64 at', .int .i64 wy, .int .i64 l] 78)
  have HN1 := hide (h.later hA)
  have HK1 := hide (Kept3.of_below (B := bR) (M := mT) (og := dv.ownBlock) hA)
  have x0 := new_cell w #[.int .i64 k, .int .i64 at', .int .i64 wy, .int .i64 l] 78 0 _ rfl
  have x1 := new_cell w #[.int .i64 k, .int .i64 at', .int .i64 wy, .int .i64 l] 78 1 _ rfl
  have x2 := new_cell w #[.int .i64 k, .int .i64 at', .int .i64 wy, .int .i64 l] 78 2 _ rfl
  have x3 := new_cell w #[.int .i64 k, .int .i64 at', .int .i64 wy, .int .i64 l] 78 3 _ rfl
  have hbX : w.heap.size ≠ bR := by have := h.bl; omega
  have hlw := h.below.size
  have hbM : mT ≠ w.heap.size := by have := h.tm.lt; omega
  have hbS : m ≠ w.heap.size := by have := h.seats.lt; omega
  have hbD : dv.ownBlock ≠ some w.heap.size := fun e => by have := (h.own.lt _ e).2; omega
  clear hi hz0 hz1 hz2 hx hP h hA
  go_enter Tryz.func28, Tryz.ntmps28
  go_upto_region 1 with fail
  have hws : w.heap.size < (w.alloc (.cells #[.int .i64 k, .int .i64 at', .int .i64 wy, .int .i64 l] 78)).heap.size := by simp
  have hxf : ∀ o, (w.alloc (.cells #[.int .i64 k, .int .i64 at', .int .i64 wy, .int .i64 l] 78)).frozen? ⟨w.heap.size, o, none⟩ = false := fun o => by simp [go_sem]
  have HXF := hide hxf
  clear hxf
  generalize w.alloc (.cells #[.int .i64 k, .int .i64 at', .int .i64 wy, .int .i64 l] 78) = w1 at *
  generalize hbXe : w.heap.size = bX at *
  obtain ⟨c0, c1, c2, c3, c4, c5⟩ := HN1.out.cells
  have HCB : Hid (CB w1 w1 bX bR m (.slice a N.pcs.length cap) (.slice a' N.jts.length cap') k at' wy l) := ⟨⟨x0, x1, x2, x3, c0, c1, c2⟩, Below.refl _ _⟩
  have h1 : Below w1.heap.size w1 w1.drew := (Below.refl _ _).drew
  clear x0 x1 x2 x3 c0 c1 c2 c3 c4 c5
  go_cut [13] (fun s13 wx => s13 = .bool (decide (l > roomP N k at' wy)) ∧ Hid (Below w1.heap.size w1 wx))
  case first =>
    go_region_held3 (fun wx => CB w1 wx bX bR m (.slice a N.pcs.length cap) (.slice a' N.jts.length cap') k at' wy l)
      (first
        | (exact keepCB h1 HCB.out)
        | (with_reducible exact HGT.out)
        | (exact keepCB (by assumption) (by assumption)))
      (first
        | (go_at_call 58; refine (layAhead_any a a' N cap cap' m k at' wy _ hkl hsw (by omega) (by omega) (HP.out.later (HN1.out.below.trans ((heldCB (by assumption)).mono HN1.out.below.size)))).mono ?_; rintro e wT ⟨rfl, hbT⟩; have HGT : Hid (CB w1 wT bX bR m (.slice a N.pcs.length cap) (.slice a' N.jts.length cap') k at' wy l) := keepCB hbT (by assumption); clear hbT))
    all_goals
      rename_i hHS
      have HHS := hide hHS.2.out
      clear hHS
      go_wp2_with fail
      go_meet
      case rel => exact ⟨rfl, HHS⟩
  case rest =>
    obtain ⟨rfl, HB2⟩ := hcut
    rename World => w2
    have HN2 := hide (HN1.out.later HB2.out)
    have HK2 := hide (HK1.out.trans (Kept3.of_below (B := bR) (M := mT) (og := dv.ownBlock) HB2.out) (.inl rfl))
    have x0 := cell_later' HB2.out HCB.out.1.1
    have x1 := cell_later' HB2.out HCB.out.1.2.1
    have x2 := cell_later' HB2.out HCB.out.1.2.2.1
    have x3 := cell_later' HB2.out HCB.out.1.2.2.2.1
    have hxf : ∀ o, w2.frozen? ⟨bX, o, none⟩ = false := fun o => by rw [HB2.out.frozen (p := ⟨bX, o, none⟩) hws]; exact HXF.out o
    have f1 := hxf 1
    have HXF2 := hide hxf
    have hlw2 := HN2.out.below.size
    have hw2 := HB2.out.size
    obtain ⟨c0, c1, c2, c3, c4, c5⟩ := HN2.out.cells
    have hbR := cell_lt c0
    clear hxf HXF HCB HN1 HK1 HB2 h1 HN
    by_cases he : l ≤ roomP N k at' wy
    · have q1 : decide (l > roomP N k at' wy) = false := decide_eq_false (by omega)
      have HEN := hide (show endsR N ((↑k, at', wy), l) = true from decide_eq_true he)
      have hwy2 : wy * l = l * wy := Int.mul_comm _ _
      have HWF := hide (HTO.out HEN.out)
      have hwr1 : IntKind.i64.wrap (wy * l) = l * wy := by rw [IntKind.wrap_i64, hwy2]; rcases hsw with rfl | rfl <;> omega
      have hwr2 : IntKind.i64.wrap (at' + l * wy) = at' + l * wy := by rw [IntKind.wrap_i64]; rcases hsw with rfl | rfl <;> omega
      have HN3 := hide (HN2.out.off (bX := bX) (o := 1) hlw (fun e => hbX e.symm) hbM hbS hbD (.int .i64 (at' + l * wy)))
      have HK3 := hide (show Kept3 bR mT dv.ownBlock w (w2.setCell ⟨bX, 1, none⟩ (.int .i64 (at' + l * wy))) from ⟨by rw [World.size_setCell]; exact HK2.out.size, fun k hk hB hM ho => by rw [Below.heap_setCell _ _ _ k (by show k ≠ bX; omega)]; exact HK2.out.block k hk hB hM ho⟩)
      have y0 : (w2.setCell ⟨bX, 1, none⟩ (.int .i64 (at' + l * wy))).cell? ⟨bX, 0, none⟩ = some (.int .i64 k) := by simp [go_sem, x0]
      have y1 : (w2.setCell ⟨bX, 1, none⟩ (.int .i64 (at' + l * wy))).cell? ⟨bX, 1, none⟩ = some (.int .i64 (at' + l * wy)) := by simp [go_sem, x1]
      have y2 : (w2.setCell ⟨bX, 1, none⟩ (.int .i64 (at' + l * wy))).cell? ⟨bX, 2, none⟩ = some (.int .i64 wy) := by simp [go_sem, x2]
      rw [q1]
      clear he hwy2
      go_upto_region 4 with fail
      clear x0 x1 x2 x3 c0 c1 c2 c3 c4 c5 f1 HXF2 HN2 HK2
      generalize w2.setCell ⟨bX, 1, none⟩ (.int .i64 (at' + l * wy)) = w3 at *
      obtain ⟨_, _, _, c3, _, _⟩ := HN3.out.cells
      have hbl3 := cell_lt c3
      have hyl3 := cell_lt y0
      have hTd := (HN3.out.later ((Below.refl w3.heap.size w3).drew)).tm
      obtain ⟨c, hl, hc⟩ := hTd.look HWF.out
      obtain ⟨v0', st, wE, c', hE, hl', hst⟩ := hTd.bump (by unfold maxLen; omega) HWF.out
      obtain ⟨wA, hA, hTA, hgA⟩ := hst (IntKind.i64.wrap (c + 1)) (wrap_wf9 _)
      obtain ⟨wB, hB, hTB, hgB⟩ := hst (IntKind.i64.wrap (c' + 1)) (wrap_wf9 _)
      have HFA := hide ((HN3.out.later ((Below.refl w3.heap.size w3).drew)).told hgA hTA)
      have HFB := hide ((HN3.out.later ((Below.refl w3.heap.size w3).drew)).told hgB hTB)
      have HKA := hide (HK3.out.trans ((Kept3.of_below (B := bR) (M := mT) (og := dv.ownBlock) ((Below.refl w3.heap.size w3).drew)).trans ((HN3.out.later ((Below.refl w3.heap.size w3).drew)).told_kept hgA dv.ownBlock) (.inl rfl)) (.inl rfl))
      have HKB := hide (HK3.out.trans ((Kept3.of_below (B := bR) (M := mT) (og := dv.ownBlock) ((Below.refl w3.heap.size w3).drew)).trans ((HN3.out.later ((Below.refl w3.heap.size w3).drew)).told_kept hgB dv.ownBlock) (.inl rfl)) (.inl rfl))
      have HCR := hide (show comeR N (out, line) (((k : Int), at', wy), l) = (addO out (toldR (((k : Int), at', wy), l)), line) from if_pos HEN.out)
      simp only [spV, toldR] at hl hE hl'
      clear hTd hst hTA hgA hTB hgB hc HTO
      go_region_law (fail)
      all_goals
        go_wp2_with fail
        go_end0
        rw [HCR.out]
        first
          | exact ⟨rfl, dv, nT + 1, HFA.out, HKA.out, .inl rfl, Nat.le_refl _⟩
          | exact ⟨rfl, dv, nT + 1, HFB.out, HKB.out, .inl rfl, Nat.le_refl _⟩
    · have q1 : decide (l > roomP N k at' wy) = true := decide_eq_true (by omega)
      have HEN := hide (show endsR N ((↑k, at', wy), l) = false from decide_eq_false he)
      have hml : line.length + 1 ≤ maxLen := by unfold maxLen; omega
      have HCR := hide (show comeR N (out, line) (((k : Int), at', wy), l) = (out, line ++ [(((k : Int), at', wy), l)]) from if_neg (by rw [HEN.out]; simp))
      have HF4 := hide (HN2.out.free 4)
      rw [q1]
      clear he
      go_upto_region 2 with fail
      go_region_law (first
          | (refine step_append_lies _ (by rfl) _ _ _ (by rfl) w0.heap.size 78 i0 _ 4 32 Tryz.underlying73 HI.out HZ0.out HZ1.out HZ2.out rfl (by omega) dv line.length (dvCells line) (by rfl) (HN2.out.own.alloc _) ⟨_, 0, none⟩ 1 1 [.int .i64 k, .int .i64 at', .int .i64 wy, .int .i64 l] (by rfl) (by rfl) (World.news_of_block (heap_alloc_new _ _)) (by simp [Value.oneCell']) (by omega) hml (by omega) (by simp; omega) _ rfl ?_; intro g2 cp2 w7 hown2 hgrow2 hnew2 _; have HPU := hide (HN2.out.pushed (x := (((k : Int), at', wy), l)) (((Below.refl w2.heap.size w2).alloc (Nat.le_refl _) _).drew) hgrow2 hown2 hnew2); have hne7 : some bR ≠ dv.ownBlock := fun e => HN2.out.ownB e.symm; have m4 := hgrow2.cell (cell_later' (((Below.refl w2.heap.size w2).alloc (Nat.le_refl _) _).drew) c4) hne7; have mf : w7.frozen? ⟨bR, 4, none⟩ = false := (World.frozen?_of_block (a := ⟨bR, 4, none⟩) ((hgrow2.block bR (Nat.lt_of_lt_of_le hbR (((Below.refl w2.heap.size w2).alloc (Nat.le_refl _) _).drew).size) hne7).trans ((((Below.refl w2.heap.size w2).alloc (Nat.le_refl _) _).drew).block bR hbR))).trans HF4.out))
      all_goals
        go_wp2_with fail
        (try simp only [Exit.inBlock, Exit.then])
        refine bodyPost_ret (results_none rfl _ _ _) rfl ?_
        rw [HCR.out]
        exact ⟨rfl, _, nT, HPU.out.1, HK2.out.trans HPU.out.2.1 (.inl rfl), HPU.out.2.2.imp id (fun ⟨g, e, h⟩ => ⟨g, e, Nat.le_trans HK2.out.size h⟩), Nat.le_succ _⟩
end Go.Proofs.YtijdigdcmjdooaaGreat
