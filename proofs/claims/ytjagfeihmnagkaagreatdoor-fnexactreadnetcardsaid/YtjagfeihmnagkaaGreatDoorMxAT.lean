/- errors.As where it hits. Own work. -/
import Derived.Test.YtjagfeihmnagkaaGreatDoorRiW
import Derived.Test.YtjagfeihmnagkaaGreatDoorRiV
import Derived.Test.YtjagfeihmnagkaaGreatDoorRnX
namespace Go.Proofs.YtjagfeihmnagkaaGreatDoor
open Go.RowKit Go.Extern.Stop Go.Stop Go.Extern
set_option maxHeartbeats 4000000
set_option maxRecDepth 100000

theorem as_hit (c l : Int) (tb : Nat) (o0 o1 : Value) (w : World) (hg : w.cell? ⟨0, 0, none⟩ = some (rtI 40)) (ht0 : w.cell? ⟨tb, 0, none⟩ = some o0) (ht1 : w.cell? ⟨tb, 1, none⟩ = some o1) (hf0 : ∀ o, w.frozen? ⟨tb, o, none⟩ = false) :
    Calls Tryz.prog 15 #[errV c l, .iface 46 (.pointer (some ⟨tb, 0, none⟩))] w fun ev w' => ev = .returned (.bool true) ∧ w'.cell? ⟨tb, 0, none⟩ = some (.int .i64 c) ∧ w'.cell? ⟨tb, 1, none⟩ = some (.int .i64 l) ∧ On (· = tb) w w' := by
  have h6 := @run_callFunc_extern Tryz.prog 31 _ (fun args => ReflectliteValue.unpack (args.getD 0 (.tuple #[]))) Tryz.func31 (by kernel_rfl) (by kernel_rfl) (by kernel_rfl) (by kernel_rfl)
  have h7 := @run_callFunc_extern Tryz.prog 32 _ (ReflectliteValue.methodAny (ReflectliteValue.valueError "reflectlite.Value.Type" 0) (fun t _ _ _ => ReflectliteType.toType t)) Tryz.func32 (by kernel_rfl) (by kernel_rfl) (by kernel_rfl) (by kernel_rfl)
  have h8 := @run_callFunc_extern Tryz.prog 33 _ (ReflectliteValue.method (ReflectliteValue.valueError "reflectlite.Value.IsNil" 0) ReflectliteValue.isNil) Tryz.func33 (by kernel_rfl) (by kernel_rfl) (by kernel_rfl) (by kernel_rfl)
  have h27 := @run_callFunc_extern Tryz.prog 120 _ (ReflectliteType.abiMethod fun t => do pure (.int .u8 (← Rtype.kind t))) Tryz.func120 (by kernel_rfl) (by kernel_rfl) (by kernel_rfl) (by kernel_rfl)
  have h37 := @run_callFunc_extern Tryz.prog 130 _ (ReflectliteType.method ReflectliteType.elem) Tryz.func130 (by kernel_rfl) (by kernel_rfl) (by kernel_rfl) (by kernel_rfl)
  have h38 := @run_callFunc_extern Tryz.prog 131 _ (ReflectliteType.relation "Implements" ReflectliteType.implements_) Tryz.func131 (by kernel_rfl) (by kernel_rfl) (by kernel_rfl) (by kernel_rfl)
  have h10 := @run_callFunc_extern Tryz.prog 48 _ ReflectliteType.typeOf Tryz.func48 (by kernel_rfl) (by kernel_rfl) (by kernel_rfl) (by kernel_rfl)
  have h35 := @run_callFunc_extern Tryz.prog 128 _ (ReflectliteType.relation "AssignableTo" ReflectliteType.assignableTo) Tryz.func128 (by kernel_rfl) (by kernel_rfl) (by kernel_rfl) (by kernel_rfl)
  have h11 := @run_callFunc_extern Tryz.prog 49 _ (ReflectliteValue.method (ReflectliteValue.valueError "reflectlite.Value.Elem" 0) ReflectliteValue.elem) Tryz.func49 (by kernel_rfl) (by kernel_rfl) (by kernel_rfl) (by kernel_rfl)
  have h12 := @run_callFunc_extern Tryz.prog 50 _ ReflectliteValue.set Tryz.func50 (by kernel_rfl) (by kernel_rfl) (by kernel_rfl) (by kernel_rfl)
  have tO := asTypeOf
  have mA := asMethodAsg
  have a25 := asAsg
  have v25 := asValueOfS
  have f6 := asValueOf
  have f7 := asType
  have mK := asMethodKind
  have mE := asMethodElem
  have mI := asMethodImpl
  have k27 := asKindP
  have k25 := asKindS
  have e27 := asElem
  have i25 := asImpl
  have hlg := cell_lt hg
  have hlt := cell_lt ht0
  obtain ⟨w1, hw1⟩ : ∃ w1, w.alloc (.cells #[.pointer (some ⟨tb, 0, none⟩)] 46) = w1 := ⟨_, rfl⟩
  obtain ⟨w2, hw2⟩ : ∃ w2, w1.alloc (.cells #[rtH 46, .pointer (some ⟨w.heap.size, 0, none⟩), .int .u64 150] 79) = w2 := ⟨_, rfl⟩
  obtain ⟨w3, hw3⟩ : ∃ w3, w2.alloc (.cells #[rtH 46, .pointer (some ⟨w.heap.size, 0, none⟩), .int .u64 150] 79) = w3 := ⟨_, rfl⟩
  obtain ⟨w4, hw4⟩ : ∃ w4, w3.alloc (.cells #[.int .i64 c, .int .i64 l] 44) = w4 := ⟨_, rfl⟩
  have hb1 : Below w.heap.size w w1 := by rw [← hw1]; exact bS0 _ _
  have hb12 : Below w1.heap.size w1 w2 := by rw [← hw2]; exact bS0 _ _
  have hb23 : Below w2.heap.size w2 w3 := by rw [← hw3]; exact bS0 _ _
  have hb34 : Below w3.heap.size w3 w4 := by rw [← hw4]; exact bS0 _ _
  have hb2 := chnB hb1 hb12
  have hb3 := chnB hb2 hb23
  have hb4 := chnB hb3 hb34
  have hp1 : w1.cell? ⟨w.heap.size, 0, none⟩ = some (.pointer (some ⟨tb, 0, none⟩)) := by rw [← hw1]; exact new_cell w #[.pointer (some ⟨tb, 0, none⟩)] _ 0 _ rfl
  have n8 := asIsNil ⟨w.heap.size, 0, none⟩ ⟨tb, 0, none⟩ w2 (cell_later' hb12 hp1)
  have hg2 := cell_later' hb2 hg
  have el := asElemV ⟨w.heap.size, 0, none⟩ ⟨tb, 0, none⟩ w3 (cell_later' hb23 (cell_later' hb12 hp1))
  have hs1 : w1.heap.size = w.heap.size + 1 := by rw [← hw1]; simp
  have hs2 : w2.heap.size = w.heap.size + 1 + 1 := by rw [← hw2]; simp [hs1]
  have hs3 : w3.heap.size = w.heap.size + 1 + 1 + 1 := by rw [← hw3]; simp [hs2]
  have st := asSet tb (w.heap.size + 1 + 1 + 1) c l o0 o1 w4 (by rw [← hw4, ← hs3]; exact new_cell w3 #[.int .i64 c, .int .i64 l] _ 0 _ rfl) (by rw [← hw4, ← hs3]; exact new_cell w3 #[.int .i64 c, .int .i64 l] _ 1 _ rfl) (cell_later' hb4 ht0) (cell_later' hb4 ht1) (fun o => by rw [hb4.frozen (p := ⟨tb, o, none⟩) hlt]; exact hf0 o)
  have HFIN : Hid (On (· = tb) w ((w4.setCell ⟨tb, 0, none⟩ (.int .i64 c)).setCell ⟨tb, 1, none⟩ (.int .i64 l))) := hide (((On.of_below (S := (· = tb)) hb4).trans (On.set w4 (S := (· = tb)) (b := tb) (o := 0) rfl _)).trans (On.set _ (S := (· = tb)) (b := tb) (o := 1) rfl _))
  have HT0 := hide (cell_later' hb4 ht0)
  have HT1 := hide (cell_later' hb4 ht1)
  simp only [rtH, rtI] at *
  unfold errV
  subst hw4
  subst hw3
  subst hw2
  subst hw1
  clear hb1 hb12 hb23 hb34 hb2 hb3 hb4 hp1 hs1 hs2 hs3 hg ht0 ht1 hf0
  go_enter Tryz.func15, Tryz.ntmps15
  go_wp2
  refine wp_loop_rounds 1 ?_
  rw [rounds_succ]
  go_wp2
  go_ret
  refine ⟨rfl, ?_, ?_, HFIN.out⟩
  · have := HT0.out; simp [go_sem, this]
  · have := HT1.out; simp [go_sem, this]
end Go.Proofs.YtjagfeihmnagkaaGreatDoor

/- impl.ReadNet. Own work. -/
namespace Go.Proofs.YtjagfeihmnagkaaGreatDoor
open Go.RowKit Go.Extern.Stop Go.Stop Go.Extern
set_option maxHeartbeats 4000000
set_option maxRecDepth 100000

def rnO (w : World) : World := w.alloc (.cells #[.int .i64 0, .int .i64 0, .slice none 0 0, .slice none 0 0] 27)
theorem rnO_size (w : World) : (rnO w).heap.size = w.heap.size + 1 := by simp [rnO]
theorem rnO_box (w : World) : TBx w (rnO w) := by
  have h := box_cells (blk_new (W := w) (o := .cells #[.int .i64 0, .int .i64 0, .slice none 0 0, .slice none 0 0] 27) rfl)
  exact ⟨h.1 0 _ rfl, h.1 1 _ rfl, h.1 2 _ rfl, h.1 3 _ rfl, h.2⟩
theorem readG_zero (N : Nt) (i : Int) (ls : List Bl) (h : (readG N i ls).1 = 0) : (readG N i ls).2.1 = 0 := by
  induction ls generalizing N i with
  | nil =>
    rw [readG] at h ⊢
    unfold wholeP at h ⊢
    split at h <;> rename_i h1
    · simp at h
    · rw [if_neg h1]
      split at h <;> rename_i h2
      · simp at h
      · rw [if_neg h2]
  | cons l ls ih =>
    rw [readG] at h ⊢
    split at h <;> rename_i h1
    · exact absurd h h1
    · rw [if_neg h1]; exact ih _ _ h
theorem told_zero {t : ByteArray} (h : (toldP t).1 = 0) : toldP t = (0, 0, (toldP t).2.2) := by
  have h2 : (toldP t).2.1 = 0 := by
    unfold toldP at *
    split at h <;> rename_i h1
    · simp at h
    · rw [if_neg h1]; exact readG_zero _ _ _ h
  refine Prod.ext h (Prod.ext h2 rfl)
theorem implReadNet_any (t : Bl) (w : World) (hl : t.length ≤ 1048576) (hM : MX w) (hg : w.cell? ⟨0, 0, none⟩ = some (rtI 40)) :
    Calls Tryz.prog 5 #[.string (sb t)] w fun e w' => ReadPost (toldP (sb t)) w e w' := by
  have hA : Below w.heap.size w (rnO w) := bS0 _ _
  have HT := hide (rnO_box w)
  have HCL := hide (readText_any t (rnO w) hl (hM.later hA))
  have HA := hide hA
  have HG := hide (cell_later' hA hg)
  have HSZ := hide (rnO_size w)
  clear hA hM hg
  go_enter Tryz.func5, Tryz.ntmps5
  go_wp2_with fail
  refine HCL.out.mono ?_
  rintro e w2 ⟨pv, jv, ⟨z1, n1, c1, rfl⟩, ⟨z2, n2, c2, rfl⟩, hb2, hor⟩
  clear HCL
  have hb3 := bS0 w2 (.cells #[.slice z1 n1 c1, .slice z2 n2 c2] 25)
  have hb4 := bS0 (w2.alloc (.cells #[.slice z1 n1 c1, .slice z2 n2 c2] 25)) (.cells #[.int .i64 0, .int .i64 0] 44)
  have hb24 := chnB hb3 hb4
  have hb14 := chnB hb2 hb24
  have HB4 := hide (chnB HA.out hb14)
  have HT4 := hide (HT.out.later hb14)
  have HG4 := hide (cell_later' hb14 HG.out)
  have HB24 := hide hb24
  have m0 : _ = some (Value.slice z1 n1 c1) := cell_later' hb4 (new_cell w2 #[.slice z1 n1 c1, .slice z2 n2 c2] 25 0 _ rfl)
  have m1 : _ = some (Value.slice z2 n2 c2) := cell_later' hb4 (new_cell w2 #[.slice z1 n1 c1, .slice z2 n2 c2] 25 1 _ rfl)
  have hE := box_cells (blk_new (W := w2.alloc (.cells #[.slice z1 n1 c1, .slice z2 n2 c2] 25)) (o := .cells #[.int .i64 0, .int .i64 0] 44) (k := w2.heap.size + 1) (by simp))
  have e0 := hE.1 0 _ rfl
  have e1 := hE.1 1 _ rfl
  have HEF := hide hE.2
  have hs2 : w.heap.size + 1 ≤ w2.heap.size := by rw [← HSZ.out]; exact hb2.size
  rcases hor with ⟨h0, rfl, js, hown, hkr, hmp⟩ | ⟨h0, rfl, hn⟩
  · have HOWN := hide (owns_later' hown hb24)
    have HKR := hide (hkr.later hb24)
    have HMP := hide hmp
    clear hown hkr hmp hb2 hb3 hb4 hb24 hb14 hE HEF e0 e1
    go_upto_region 3 with fail
    generalize (w2.alloc (.cells #[.slice z1 n1 c1, .slice z2 n2 c2] 25)).alloc (.cells #[.int .i64 0, .int .i64 0] 44) = w4 at *
    have ha := as_nil (.iface 46 (.pointer (some ⟨w2.heap.size + 1, 0, none⟩))) w4
    have t0 := HT4.out.c0
    have t1 := HT4.out.c1
    have t2 := HT4.out.c2
    have t3 := HT4.out.c3
    have p0 := HT4.out.f 0
    have p1 := HT4.out.f 1
    have p2 := HT4.out.f 2
    have p3 := HT4.out.f 3
    have hlt := cell_lt t0
    have hlm := cell_lt m0
    have hm : Mid w.heap.size (w.heap.size + 1) w4 ((((w4.setCell ⟨w.heap.size, 0, none⟩ (.int .i64 0)).setCell ⟨w.heap.size, 1, none⟩ (.int .i64 0)).setCell ⟨w.heap.size, 2, none⟩ (.slice z1 n1 c1)).setCell ⟨w.heap.size, 3, none⟩ (.slice z2 n2 c2)) := ((((Mid.refl _ _ _).setCell (Nat.le_refl _) (by omega) _).setCell (Nat.le_refl _) (by omega) _).setCell (Nat.le_refl _) (by omega) _).setCell (Nat.le_refl _) (by omega) _
    have HOP := hide (owns_mono (owns_mid HOWN.out hm (by rw [HSZ.out]; omega)) (show w.heap.size ≤ _ by rw [HSZ.out]; omega))
    have HKR2 := hide (KR.low_base (HKR.out.midLow hm (by rw [HSZ.out]; omega)) (show w.heap.size ≤ _ by rw [HSZ.out]; omega))
    have HBF := hide ((((HB4.out.setCell (p := ⟨w.heap.size, 0, none⟩) (Nat.le_refl _) (.int .i64 0)).setCell (p := ⟨w.heap.size, 1, none⟩) (Nat.le_refl _) (.int .i64 0)).setCell (p := ⟨w.heap.size, 2, none⟩) (Nat.le_refl _) (.slice z1 n1 c1)).setCell (p := ⟨w.heap.size, 3, none⟩) (Nat.le_refl _) (.slice z2 n2 c2))
    have HRR := hide (show toldP (sb t) = (0, 0, (toldP (sb t)).2.2) from told_zero h0)
    clear hm
    have HAS := hide ha
    clear ha
    go_wp2_with fail
    refine HAS.out.mono ?_
    rintro e w5 ⟨rfl, rfl⟩
    clear HAS h0
    go_wp2_with fail
    exact bodyPost_ret (v := .agg #[.int .i64 0, .int .i64 0, .slice z1 n1 c1, .slice z2 n2 c2]) (by simp [results, Tryz.results5, go_sem, t0, t1, t2, t3]) rfl (by rw [HRR.out]; exact ⟨_, _, js, rfl, HOP.out, HKR2.out, HMP.out, HBF.out⟩)
  · clear hb2 hb3 hb4 hb24 hb14 hE m0 m1
    go_upto_region 3 with fail
    generalize (w2.alloc (.cells #[.slice z1 n1 c1, .slice z2 n2 c2] 25)).alloc (.cells #[.int .i64 0, .int .i64 0] 44) = w4 at *
    obtain ⟨c, l, N, hR⟩ : ∃ c l N, toldP (sb t) = (c, l, N) := ⟨_, _, _, rfl⟩
    rw [hR] at hn ⊢
    dsimp only at hn ⊢
    subst hn
    have HRR := hide hR
    clear hR
    have HAS := hide (as_hit c l (w2.heap.size + 1) _ _ w4 HG4.out e0 e1 HEF.out)
    have hle := cell_lt e0
    clear HEF e0 e1 HG4 HG h0
    go_wp2_with fail
    refine HAS.out.mono ?_
    rintro e w5 ⟨rfl, e0, e1, hon⟩
    have HB5 := hide (hon.below HB4.out (fun b e => by omega) HB4.out.size)
    have hle := cell_lt e0
    have hbx : w.heap.size ≠ w2.heap.size + 1 := by omega
    have t0 := hon.cell hbx HT4.out.c0
    have t1 := hon.cell hbx HT4.out.c1
    have t2 := hon.cell hbx HT4.out.c2
    have t3 := hon.cell hbx HT4.out.c3
    have hf : ∀ o, w5.frozen? ⟨w.heap.size, o, none⟩ = false := fun o => (hon.frozen (cell_lt HT4.out.c0) hbx).trans (HT4.out.f o)
    have p0 := hf 0
    have p1 := hf 1
    have p2 := hf 2
    have p3 := hf 3
    have hlt := cell_lt t0
    have HBF := hide ((((HB5.out.setCell (p := ⟨w.heap.size, 0, none⟩) (Nat.le_refl _) (.int .i64 c)).setCell (p := ⟨w.heap.size, 1, none⟩) (Nat.le_refl _) (.int .i64 l)).setCell (p := ⟨w.heap.size, 2, none⟩) (Nat.le_refl _) (.slice none 0 0)).setCell (p := ⟨w.heap.size, 3, none⟩) (Nat.le_refl _) (.slice none 0 0))
    clear HAS hon hf
    go_wp2_with fail
    exact bodyPost_ret (v := .agg #[.int .i64 c, .int .i64 l, .slice none 0 0, .slice none 0 0]) (by simp [results, Tryz.results5, go_sem, t0, t1, t2, t3]) rfl (by rw [HRR.out]; exact readPost_none HBF.out)
end Go.Proofs.YtjagfeihmnagkaaGreatDoor
