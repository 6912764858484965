/- The law FnExactStretch's walk. Own work, written by gen_lwsx.py. -/
import Derived.Test.YtncanhbmbjoamacGreatMxAV
import Derived.Test.YtncanhbmbjoamacGreatLhT
import Derived.Test.YtncanhbmbjoamacGreatMxAX
namespace Go.Proofs.YtncanhbmbjoamacGreat
open Go.RowKit
set_option maxHeartbeats 8000000
set_option maxRecDepth 20000

/-- The law's three boxes. -/
abbrev SQ (w wb wx : World) (v0 v1 : Value) (ok : Bool) (far : Int) (u2 u3 : Value) (q at' wy : Int) : Prop :=
  (wx.cell? ⟨w.heap.size, 0, none⟩ = some v0 ∧ wx.cell? ⟨w.heap.size, 1, none⟩ = some v1 ∧ wx.cell? ⟨w.heap.size + 1, 0, none⟩ = some (.bool ok) ∧ wx.cell? ⟨w.heap.size + 1, 1, none⟩ = some (.int .i64 far) ∧ wx.cell? ⟨w.heap.size + 1, 2, none⟩ = some u2 ∧ wx.cell? ⟨w.heap.size + 1, 3, none⟩ = some u3 ∧ wx.cell? ⟨w.heap.size + 1 + 1, 0, none⟩ = some (.int .i64 q) ∧ wx.cell? ⟨w.heap.size + 1 + 1, 1, none⟩ = some (.int .i64 at') ∧ wx.cell? ⟨w.heap.size + 1 + 1, 2, none⟩ = some (.int .i64 wy)) ∧ Hid (Below wb.heap.size wb wx)
theorem keepQ {w wb w2 w3 : World} {v0 v1 u2 u3 : Value} {ok : Bool} {far q at' wy : Int} (hb : Below w2.heap.size w2 w3) (h : SQ w wb w2 v0 v1 ok far u2 u3 q at' wy) : SQ w wb w3 v0 v1 ok far u2 u3 q at' wy :=
  ⟨⟨cell_later' hb h.1.1, cell_later' hb h.1.2.1, cell_later' hb h.1.2.2.1, cell_later' hb h.1.2.2.2.1, cell_later' hb h.1.2.2.2.2.1, cell_later' hb h.1.2.2.2.2.2.1, cell_later' hb h.1.2.2.2.2.2.2.1, cell_later' hb h.1.2.2.2.2.2.2.2.1, cell_later' hb h.1.2.2.2.2.2.2.2.2⟩, h.2.out.trans (hb.mono h.2.out.size)⟩
theorem SQ.base {w wb wc wx : World} {v0 v1 u2 u3 : Value} {ok : Bool} {far q at' wy : Int} (h : SQ w wb wx v0 v1 ok far u2 u3 q at' wy) (hb : Below wc.heap.size wc wx) : SQ w wc wx v0 v1 ok far u2 u3 q at' wy := ⟨h.1, hb⟩
theorem SQ.mid {B C : Nat} {w w1 w2 : World} {v0 v1 u2 u3 : Value} {ok : Bool} {far q at' wy : Int} (h : SQ w w w1 v0 v1 ok far u2 u3 q at' wy) (hm : Mid B C w1 w2) (hB : w.heap.size + 1 + 1 < B) (hw : B ≤ w1.heap.size) : SQ w w w2 v0 v1 ok far u2 u3 q at' wy :=
  ⟨⟨hm.cell (.inl (by omega)) h.1.1, hm.cell (.inl (by omega)) h.1.2.1, hm.cell (.inl (by omega)) h.1.2.2.1, hm.cell (.inl (by omega)) h.1.2.2.2.1, hm.cell (.inl (by omega)) h.1.2.2.2.2.1, hm.cell (.inl (by omega)) h.1.2.2.2.2.2.1, hm.cell (.inl (by omega)) h.1.2.2.2.2.2.2.1, hm.cell (.inl (by omega)) h.1.2.2.2.2.2.2.2.1, hm.cell (.inl (by omega)) h.1.2.2.2.2.2.2.2.2⟩, h.2.out.trans ((hm.below hw).mono (by omega))⟩
/-- And the boxes of what is handed over. -/
abbrev SQ2 (w wb wx : World) (v0 v1 : Value) (ok : Bool) (far : Int) (u2 u3 : Value) (q at' wy : Int) (bX : Nat) (x0 x1 : Value) (bY : Nat) (y2 y3 : Value) : Prop :=
  (SQ w w wx v0 v1 ok far u2 u3 q at' wy ∧ wx.cell? ⟨bX, 0, none⟩ = some x0 ∧ wx.cell? ⟨bX, 1, none⟩ = some x1 ∧ wx.cell? ⟨bY, 0, none⟩ = some (.bool ok) ∧ wx.cell? ⟨bY, 1, none⟩ = some (.int .i64 far) ∧ wx.cell? ⟨bY, 2, none⟩ = some y2 ∧ wx.cell? ⟨bY, 3, none⟩ = some y3) ∧ Hid (Below wb.heap.size wb wx)
theorem keepQ2 {w wb w2 w3 : World} {v0 v1 u2 u3 x0 x1 y2 y3 : Value} {ok : Bool} {far q at' wy : Int} {bX bY : Nat} (hb : Below w2.heap.size w2 w3) (h : SQ2 w wb w2 v0 v1 ok far u2 u3 q at' wy bX x0 x1 bY y2 y3) : SQ2 w wb w3 v0 v1 ok far u2 u3 q at' wy bX x0 x1 bY y2 y3 :=
  ⟨⟨keepQ hb h.1.1, cell_later' hb h.1.2.1, cell_later' hb h.1.2.2.1, cell_later' hb h.1.2.2.2.1, cell_later' hb h.1.2.2.2.2.1, cell_later' hb h.1.2.2.2.2.2.1, cell_later' hb h.1.2.2.2.2.2.2⟩, h.2.out.trans (hb.mono h.2.out.size)⟩
theorem SQ2.base {w wb wc wx : World} {v0 v1 u2 u3 x0 x1 y2 y3 : Value} {ok : Bool} {far q at' wy : Int} {bX bY : Nat} (h : SQ2 w wb wx v0 v1 ok far u2 u3 q at' wy bX x0 x1 bY y2 y3) (hb : Below wc.heap.size wc wx) : SQ2 w wc wx v0 v1 ok far u2 u3 q at' wy bX x0 x1 bY y2 y3 := ⟨h.1, hb⟩
theorem PathOwn.mid {B B0 C : Nat} {w w' : World} {b1 b2 : Nat} {ss ls : List (Int × Int)} (h : PathOwn B w b1 b2 ss ls) (hm : Mid B0 C w w') (hC : C ≤ b1) : PathOwn B w' b1 b2 ss ls := by
  have hne := h.ne
  refine ⟨h.lo, h.ne, Nat.lt_of_lt_of_le h.hi hm.size, hm.row (.inr hC) h.r1, hm.row (.inr (by omega)) h.r2, ?_, ?_⟩
  · intro k hk
    obtain ⟨b, o, e, e1, e2⟩ := h.s1 k hk
    cases e
    exact ⟨_, _, rfl, hm.cell (.inr hC) e1, hm.cell (.inr hC) e2⟩
  · intro k hk
    obtain ⟨b, o, e, e1, e2⟩ := h.s2 k hk
    cases e
    exact ⟨_, _, rfl, hm.cell (.inr (by omega)) e1, hm.cell (.inr (by omega)) e2⟩
theorem stretch_few (N : Nt) (ok : Bool) (far : Int) (ss : List (Int × Int)) (q a wy : Int) : (stretchP N ok far ss q a wy).length ≤ 400 := by
  unfold stretchP
  split
  · rename_i h
    split
    · simp
    · rw [strTo_len]; exact steps_few h.2.2.2.2.2.2.1
  · simp

theorem fnStretch_walk (a a' z zl : Option Addr) (N : Nt) (cap cap' zc zlc : Nat) (ok : Bool) (far : Int) (ss ls : List (Int × Int)) (q at' wy : Int) (w : World) (hwf : Wf3 q at' wy) (hp : PcsAt w a N.pcs) (hj : JtsAt w a' N.jts) (hz : EndsAt w z ss) (hzl : EndsAt w zl ls) (hn : N.pcs.length ≤ maxLen ∧ ∀ p ∈ N.pcs, p.name.size ≤ maxLen) (hl : N.jts.length ≤ maxLen ∧ ∀ j ∈ N.jts, j.name.size ≤ maxLen ∧ j.ends.length ≤ maxLen) (hx : ss.length ≤ maxLen) (hy : ls.length ≤ maxLen) :
    Calls Tryz.prog 3 #[.agg #[.slice a N.pcs.length cap, .slice a' N.jts.length cap'], .agg #[.bool ok, .int .i64 far, .slice z ss.length zc, .slice zl ls.length zlc], .agg #[.int .i64 q, .int .i64 at', .int .i64 wy]] w fun e w' => e = .returned (.bool true) ∧ Below w.heap.size w w' := by
  have HP := hide hp
  have HJ := hide hj
  have HZ := hide hz
  have HZL := hide hzl
  have HN := hide hn
  have HL := hide hl
  have HX := hide (And.intro hx hy)
  have HWF := hide hwf
  clear hp hj hz hzl hn hl hx hy hwf
  have HS0 : Hid (SQ w w (((w.alloc (.cells #[.slice a N.pcs.length cap, .slice a' N.jts.length cap'] 25)).alloc (.cells #[.bool ok, .int .i64 far, .slice z ss.length zc, .slice zl ls.length zlc] 29)).alloc (.cells #[.int .i64 q, .int .i64 at', .int .i64 wy] 31)) (.slice a N.pcs.length cap) (.slice a' N.jts.length cap') ok far (.slice z ss.length zc) (.slice zl ls.length zlc) q at' wy) :=
    ⟨⟨by simp [go_sem], by simp [go_sem], by simp [go_sem], by simp [go_sem], by simp [go_sem], by simp [go_sem], by simp [go_sem], by simp [go_sem], by simp [go_sem]⟩, (((Below.refl _ _).alloc (Nat.le_refl _) _).alloc (by simp) _).alloc (by simp; omega) _⟩
  go_enter Tryz.func3, Tryz.ntmps3
  go_upto_region 2 with fail
  generalize ((w.alloc (.cells #[.slice a N.pcs.length cap, .slice a' N.jts.length cap'] 25)).alloc (.cells #[.bool ok, .int .i64 far, .slice z ss.length zc, .slice zl ls.length zlc] 29)).alloc (.cells #[.int .i64 q, .int .i64 at', .int .i64 wy] 31) = w0 at *
  obtain ⟨t0, t1, _⟩ := HS0.out.1
  go_wp2_with fail
  refine (szNet_any a a' N cap cap' 1048576 _ HN.out.1 (HP.out.later (heldB HS0.out)) HN.out.2 HL.out.1 (HJ.out.later (heldB HS0.out)) HL.out.2 (by omega) (by omega)).mono ?_
  rintro e w1 ⟨r, rfl, hr1, hr2, hr3, hb1⟩
  have HS1 := hide (keepQ hb1 HS0.out)
  have HR := hide hr3
  clear hr3 hb1 HS0 t0 t1
  by_cases hr : r < 0
  · go_wp2_with fail
    go_ret
    exact ⟨rfl, heldB HS1.out⟩
  have hrr : decide (r < 0) = false := by rw [decide_eq_false_iff_not]; exact hr
  obtain ⟨⟨hn, hns⟩, hl, hls⟩ := HR.out (by omega)
  have HNS := hide hns
  have HLS := hide hls
  have HLM := hide (fun j (hj : j ∈ N.jts) => (HLS.out j hj).2)
  have hr0 : 0 ≤ r := by omega
  clear hns hls hr HR
  obtain ⟨_, _, t2, t3, t4, t5, _⟩ := HS1.out.1
  go_wp2_with fail
  refine (szPath_any z zl ss.length ls.length zc zlc ok far r _ HX.out.1 HX.out.2 hr0 hr2).mono ?_
  rintro e w2 ⟨r2, rfl, hr4, hb2⟩
  have HS2 := hide (keepQ hb2 HS1.out)
  have HR4 := hide hr4
  clear hb2 HS1 hrr t2 t3 t4 t5 hr4
  by_cases hr5 : r2 < 0
  · go_wp2_with fail
    go_ret
    exact ⟨rfl, heldB HS2.out⟩
  have hrr2 : decide (r2 < 0) = false := by rw [decide_eq_false_iff_not]; exact hr5
  obtain ⟨hxs, hys⟩ := HR4.out (by omega)
  clear hr5 HR4
  have h2 : Below w2.heap.size w2 w2.drew := (Below.refl _ _).drew
  have HSB2 := hide (SQ.base HS2.out (Below.refl w2.heap.size w2))
  have HB2 := hide (heldB HS2.out)
  have hPS := stretch_few N ok far ss q at' wy
  go_upto_region 8 with fail
  go_region_held3 (fun w' => SQ w w2 w' (.slice a N.pcs.length cap) (.slice a' N.jts.length cap') ok far (.slice z ss.length zc) (.slice zl ls.length zlc) q at' wy)
    (first
      | (exact keepQ h2 HSB2.out)
      | (exact keepQ (by assumption) (by assumption)))
    (first
      | (go_at_call 7; refine (toNet_any a a' N cap cap' _ hn (HP.out.later (HB2.out.trans (h2.mono HB2.out.size))) hl HLM.out (HJ.out.later (HB2.out.trans (h2.mono HB2.out.size)))).mono ?_; rintro e w3 ⟨b1, b2, rfl, hO, hbN⟩)
      | (go_at_call 8; refine (toPath_any z zl ss ls zc zlc ok far _ hxs hys (HZ.out.later (HB2.out.trans ((chn h2 hbN).mono HB2.out.size))) (HZL.out.later (HB2.out.trans ((chn h2 hbN).mono HB2.out.size)))).mono ?_; rintro e w4 ⟨d1, d2, rfl, hPO, hbP⟩)
      | (go_at_call 9; refine (toSpot_any _ _ _ _).mono ?_; rintro e w5 ⟨rfl, hbE⟩)
      | (go_at_call 6; refine (specStretch_any _ _ _ _ N _ _ _ _ ok far ss _ q at' wy _ hn HNS.out hl HLS.out hxs (hO.later (chn hbP hbE)).2.2.2.1 (hO.later (chn hbP hbE)).2.2.2.2.at (hPO.later hbE).s1).mono ?_; rintro e w6 ⟨v, rfl, how, hbJ⟩))
  rename_i hH
  have HS6 := hide (SQ.base (wc := w) hH (HB2.out.trans ((heldB hH).mono HB2.out.size)))
  generalize hpsd : stretchP N ok far ss q at' wy = ps at how hPS
  have HPSD := hide hpsd
  have hps : ps.length ≤ 1048576 := by omega
  obtain ⟨zw, zwc, rfl, hNP⟩ := newParts how
  have HZP := hide hNP.1
  have HZB := hide (show ∀ b off, zw = some ⟨b, off, none⟩ → ps.length = 0 ∨ b < w6.heap.size from fun b off h => (hNP.lt b off h).imp id (fun h => h.2))
  have hw6 : w.heap.size + 1 + 1 < w6.heap.size := cell_lt HS6.out.1.2.2.2.2.2.2.1
  clear hH how hNP hbJ hbE hbP hbN hO hPO hpsd HSB2 HS2 h2 HB2
  obtain ⟨t0, t1, _⟩ := HS6.out.1
  have hB6 := heldB HS6.out
  go_wp2_with fail
  refine (toNet_any a a' N cap cap' _ hn (HP.out.later hB6) hl HLM.out (HJ.out.later hB6)).mono ?_
  rintro e w7 ⟨c1, c2, rfl, hO, hb7⟩
  have hc1 := hO.1
  have hc2 := hO.2.1
  have HRJ := hide hO.2.2.2.2.rows
  have h67 := hb7.size
  have hA := (Below.refl w7.heap.size w7).alloc (Nat.le_refl _) (.cells #[.slice (some ⟨c1, 0, none⟩) N.pcs.length N.pcs.length, .slice (some ⟨c2, 0, none⟩) N.jts.length N.jts.length] 39)
  have x0 := new_cell w7 #[.slice (some ⟨c1, 0, none⟩) N.pcs.length N.pcs.length, .slice (some ⟨c2, 0, none⟩) N.jts.length N.jts.length] 39 0 _ rfl
  have x1 := new_cell w7 #[.slice (some ⟨c1, 0, none⟩) N.pcs.length N.pcs.length, .slice (some ⟨c2, 0, none⟩) N.jts.length N.jts.length] 39 1 _ rfl
  have hs8 : w7.heap.size < (w7.alloc (.cells #[.slice (some ⟨c1, 0, none⟩) N.pcs.length N.pcs.length, .slice (some ⟨c2, 0, none⟩) N.jts.length N.jts.length] 39)).heap.size := by simp
  have HS8 := hide (keepQ (chn hb7 hA) HS6.out)
  have HO8 := hide (hO.later hA)
  have HRJ := hide (HRJ.out.later hA)
  have HZP := hide (HZP.out.later (chn hb7 hA))
  clear hO hA hb7 HS6 t0 t1 hB6
  go_upto_region 10 with fail
  generalize w7.alloc (.cells #[.slice (some ⟨c1, 0, none⟩) N.pcs.length N.pcs.length, .slice (some ⟨c2, 0, none⟩) N.jts.length N.jts.length] 39) = w8 at *
  obtain ⟨_, _, t2, t3, t4, t5, _⟩ := HS8.out.1
  go_wp2_with fail
  refine (toPath_any z zl ss ls zc zlc ok far _ hxs hys (HZ.out.later (heldB HS8.out)) (HZL.out.later (heldB HS8.out))).mono ?_
  rintro e w9 ⟨d1, d2, rfl, hPO, hb9⟩
  have h89 := hb9.size
  have hA := (Below.refl w9.heap.size w9).alloc (Nat.le_refl _) (.cells #[.bool ok, .int .i64 far, .slice (some ⟨d1, 0, none⟩) ss.length ss.length, .slice (some ⟨d2, 0, none⟩) ls.length ls.length] 44)
  have y0 := new_cell w9 #[.bool ok, .int .i64 far, .slice (some ⟨d1, 0, none⟩) ss.length ss.length, .slice (some ⟨d2, 0, none⟩) ls.length ls.length] 44 0 _ rfl
  have y1 := new_cell w9 #[.bool ok, .int .i64 far, .slice (some ⟨d1, 0, none⟩) ss.length ss.length, .slice (some ⟨d2, 0, none⟩) ls.length ls.length] 44 1 _ rfl
  have y2 := new_cell w9 #[.bool ok, .int .i64 far, .slice (some ⟨d1, 0, none⟩) ss.length ss.length, .slice (some ⟨d2, 0, none⟩) ls.length ls.length] 44 2 _ rfl
  have y3 := new_cell w9 #[.bool ok, .int .i64 far, .slice (some ⟨d1, 0, none⟩) ss.length ss.length, .slice (some ⟨d2, 0, none⟩) ls.length ls.length] 44 3 _ rfl
  have hs10 : w9.heap.size < (w9.alloc (.cells #[.bool ok, .int .i64 far, .slice (some ⟨d1, 0, none⟩) ss.length ss.length, .slice (some ⟨d2, 0, none⟩) ls.length ls.length] 44)).heap.size := by simp
  have hd2 := hPO.hi
  have hd1 := hPO.lo
  have HS10 := hide (keepQ (chn hb9 hA) HS8.out)
  have HO10 := hide (HO8.out.later (chn hb9 hA))
  have HRJ := hide (HRJ.out.later (chn hb9 hA))
  have HZP := hide (HZP.out.later (chn hb9 hA))
  have HPO := hide (hPO.later hA)
  have x0 := cell_later' (chn hb9 hA) x0
  have x1 := cell_later' (chn hb9 hA) x1
  clear hPO hA hb9 HS8 HO8 t2 t3 t4 t5
  go_upto_region 11 with fail
  generalize w9.alloc (.cells #[.bool ok, .int .i64 far, .slice (some ⟨d1, 0, none⟩) ss.length ss.length, .slice (some ⟨d2, 0, none⟩) ls.length ls.length] 44) = w10 at *
  generalize hbX : w7.heap.size = bX at *
  generalize hbY : w9.heap.size = bY at *
  have h10 : Below w10.heap.size w10 w10.drew := (Below.refl _ _).drew
  have HSB : Hid (SQ2 w w10 w10 (.slice a N.pcs.length cap) (.slice a' N.jts.length cap') ok far (.slice z ss.length zc) (.slice zl ls.length zlc) q at' wy bX (.slice (some ⟨c1, 0, none⟩) N.pcs.length N.pcs.length) (.slice (some ⟨c2, 0, none⟩) N.jts.length N.jts.length) bY (.slice (some ⟨d1, 0, none⟩) ss.length ss.length) (.slice (some ⟨d2, 0, none⟩) ls.length ls.length)) := ⟨⟨HS10.out, x0, x1, y0, y1, y2, y3⟩, Below.refl _ _⟩
  clear x0 x1 y0 y1 y2 y3 HS10
  go_region_held3 (fun w' => SQ2 w w10 w' (.slice a N.pcs.length cap) (.slice a' N.jts.length cap') ok far (.slice z ss.length zc) (.slice zl ls.length zlc) q at' wy bX (.slice (some ⟨c1, 0, none⟩) N.pcs.length N.pcs.length) (.slice (some ⟨c2, 0, none⟩) N.jts.length N.jts.length) bY (.slice (some ⟨d1, 0, none⟩) ss.length ss.length) (.slice (some ⟨d2, 0, none⟩) ls.length ls.length))
    (first
      | (exact keepQ2 h10 HSB.out)
      | (exact keepQ2 (by assumption) (by assumption)))
    (first
      | (go_at_call 9; refine (toSpot_any _ _ _ _).mono ?_; rintro e w11 ⟨rfl, hbE⟩)
      | (go_at_call 10; refine (implStretch_any _ _ _ _ N _ _ _ _ ok far ss _ q at' wy _ HWF.out hn HNS.out hl HLS.out hxs (HO10.out.later (chn h10 hbE)).2.2.2.1 (HO10.out.later (chn h10 hbE)).2.2.2.2.at (HPO.out.later (chn h10 hbE)).s1).mono ?_; rintro e w12 ⟨v, rfl, how, hbJ⟩))
  rename_i hH
  rw [HPSD.out] at how
  obtain ⟨y, yc, rfl, hNP⟩ := newParts (owns_low how (base' := w10.heap.size) hbE.size)
  have HYP := hide hNP
  have h1012' := hH.2.out
  have h1012 := h1012'.size
  have HSB12 := hide (SQ2.base hH (Below.refl w12.heap.size w12))
  have HO12 := hide (HO10.out.later h1012')
  have HRJ := hide (HRJ.out.later h1012')
  have HZP := hide (HZP.out.later h1012')
  have HPO := hide (HPO.out.later h1012')
  clear hH how hNP hbJ hbE h1012' HSB h10 HO10
  go_wp2_with fail
  refine (eqPartS_same y zw ps yc zwc _ hps HYP.out.1 HZP.out).mono ?_
  rintro e w13 ⟨rfl, hb13⟩
  have HSB13 := hide (SQ2.base (wc := w13) (keepQ2 hb13 HSB12.out) (Below.refl w13.heap.size w13))
  have HO13 := hide (HO12.out.later hb13)
  have HRJ := hide (HRJ.out.later hb13)
  have HZP := hide (HZP.out.later hb13)
  have HYP := hide (HYP.out.later hb13)
  have HPO := hide (HPO.out.later hb13)
  have h1213 := hb13.size
  clear hb13 HSB12 HO12
  have h13 : Below w13.heap.size w13 w13.drew := (Below.refl _ _).drew
  have HB13 := hide (heldB HSB13.out.1.1)
  go_upto_region 14 with fail
  go_region_held3 (fun w' => SQ2 w w13 w' (.slice a N.pcs.length cap) (.slice a' N.jts.length cap') ok far (.slice z ss.length zc) (.slice zl ls.length zlc) q at' wy bX (.slice (some ⟨c1, 0, none⟩) N.pcs.length N.pcs.length) (.slice (some ⟨c2, 0, none⟩) N.jts.length N.jts.length) bY (.slice (some ⟨d1, 0, none⟩) ss.length ss.length) (.slice (some ⟨d2, 0, none⟩) ls.length ls.length))
    (first
      | (exact keepQ2 h13 HSB13.out)
      | (exact keepQ2 (by assumption) (by assumption)))
    (first
      | (go_at_call 7; refine (toNet_any a a' N cap cap' _ hn (HP.out.later (HB13.out.trans (h13.mono HB13.out.size))) hl HLM.out (HJ.out.later (HB13.out.trans (h13.mono HB13.out.size)))).mono ?_; rintro e w14 ⟨f1, f2, rfl, hO14, hb14⟩)
      | (go_at_call 12; refine (eqNet_same _ _ _ _ N _ _ _ _ _ hn hl HLM.out (HO13.out.later (chn h13 hb14)).2.2.2.1 hO14.2.2.2.1 (HO13.out.later (chn h13 hb14)).2.2.2.2.at hO14.2.2.2.2.at).mono ?_; rintro e w15 ⟨rfl, hb15⟩))
  rename_i hH
  have h15 := hH.2.out
  have h1315 := h15.size
  have HSB15 := hide (SQ2.base (wc := w15) hH (Below.refl w15.heap.size w15))
  have HR1 := hide (HO13.out.2.2.1.later h15)
  have HRJ := hide (HRJ.out.later h15)
  have HZP := hide (HZP.out.later h15)
  have HYP := hide (HYP.out.later h15)
  have HPO := hide (HPO.out.later h15)
  clear hH h15 hb14 hb15 hO14 HSB13 HO13 h13 HB13
  have h15 : Below w15.heap.size w15 w15.drew := (Below.refl _ _).drew
  have HB15 := hide (heldB HSB15.out.1.1)
  go_upto_region 16 with fail
  go_region_held3 (fun w' => SQ2 w w15 w' (.slice a N.pcs.length cap) (.slice a' N.jts.length cap') ok far (.slice z ss.length zc) (.slice zl ls.length zlc) q at' wy bX (.slice (some ⟨c1, 0, none⟩) N.pcs.length N.pcs.length) (.slice (some ⟨c2, 0, none⟩) N.jts.length N.jts.length) bY (.slice (some ⟨d1, 0, none⟩) ss.length ss.length) (.slice (some ⟨d2, 0, none⟩) ls.length ls.length))
    (first
      | (exact keepQ2 h15 HSB15.out)
      | (exact keepQ2 (by assumption) (by assumption)))
    (first
      | (go_at_call 8; refine (toPath_any z zl ss ls zc zlc ok far _ hxs hys (HZ.out.later (HB15.out.trans (h15.mono HB15.out.size))) (HZL.out.later (HB15.out.trans (h15.mono HB15.out.size)))).mono ?_; rintro e w16 ⟨f1, f2, rfl, hO16, hb16⟩)
      | (go_at_call 13; refine (eqPath_same _ _ _ _ ss ls _ _ _ _ ok far _ hxs hys (HPO.out.later (chn h15 hb16)).s1 (HPO.out.later (chn h15 hb16)).s2 hO16.s1 hO16.s2).mono ?_; rintro e w17 ⟨rfl, hb17⟩))
  rename_i hH
  have h17 := hH.2.out
  have h1517 := h17.size
  have HS17 := hide hH.1.1
  obtain ⟨x0, x1, y0, y1, y2, y3⟩ := hH.1.2
  have HR1 := hide (HR1.out.later h17)
  have HRJ := hide (HRJ.out.later h17)
  have HZP := hide (HZP.out.later h17)
  have HYP := hide (HYP.out.later h17)
  have HPO := hide (HPO.out.later h17)
  clear hH h17 hb16 hb17 hO16 HSB15 h15 HB15
  go_wp2_with fail
  refine (markNet_any w6.heap.size c1 c2 bX _ _ N 1 _ hn hl HLM.out (by omega) (by omega) hc1 hc2 HR1.out HRJ.out).mono ?_
  rintro e w18 ⟨k', rfl, hk', hm18⟩
  have hs18 := hm18.size
  have HS18 := hide (HS17.out.mid hm18 hw6 (by omega))
  have HZP := hide (HZP.out.mid hm18 (fun b off h => (HZB.out b off h).imp id (fun h => .inl h)))
  have HYP := hide (HYP.out.mid hm18 (fun b _ _ h => .inr (by omega)))
  have HPO := hide (HPO.out.mid hm18 (by omega))
  have y0 := hm18.cell (.inr (by omega)) y0
  have y1 := hm18.cell (.inr (by omega)) y1
  have y2 := hm18.cell (.inr (by omega)) y2
  have y3 := hm18.cell (.inr (by omega)) y3
  clear hm18 HR1 HRJ HS17 x0 x1
  go_wp2_with fail
  refine (markPath_any _ d1 d2 bY ss ls _ _ ok far k' _ hxs hys (by omega) (by omega) HPO.out (by omega)).mono ?_
  rintro e w19 ⟨rfl, hm19⟩
  have hs19 := hm19.size
  have HS19 := hide (HS18.out.mid hm19 (by omega) (by omega))
  have HZP := hide (HZP.out.mid hm19 (fun b off h => (HZB.out b off h).imp id (fun h => .inl (by omega))))
  have HYP := hide (HYP.out.mid hm19 (fun b _ _ h => .inr (by omega)))
  have hk2 : decide (k' + 2 * (ss.length : Int) + 2 * (ls.length : Int) < 0) = false := by rw [decide_eq_false_iff_not]; omega
  clear hm19 HPO HS18 y0 y1 y2 y3
  go_wp2_with fail
  refine (eqPartS_same y zw ps yc zwc _ hps HYP.out.1 HZP.out).mono ?_
  rintro e w20 ⟨rfl, hb20⟩
  have hs20 := hb20.size
  have HS20 := hide (keepQ hb20 HS19.out)
  have HZP := hide (HZP.out.later hb20)
  have HYP := hide (HYP.out.later hb20)
  clear hb20 HS19
  go_wp2_with fail
  refine (markParts_own yc HYP.out hps).mono ?_
  rintro e w21 ⟨rfl, hm21, hmk⟩
  have hs21 := hm21.size
  have HS21 := hide (HS20.out.mid hm21 (by omega) (by omega))
  have HZP := hide (HZP.out.mid hm21 (fun b off h => (HZB.out b off h).imp id (fun h => .inl (by omega))))
  have HMK := hide hmk
  clear hm21 hmk HYP HS20
  go_wp2_with fail
  refine (heldParts_own yc HMK.out hps).mono ?_
  rintro e w21' ⟨rfl, rfl⟩
  have hq1 : ((1 + 3 * (ps.length : Int)) != 1 + 3 * (ps.length : Int)) = false := by simp
  have hq2 : decide (1 + 3 * (ps.length : Int) < 0) = false := by rw [decide_eq_false_iff_not]; omega
  have h21 : Below w21.heap.size w21 w21.drew := (Below.refl _ _).drew
  have HSB21 := hide (SQ.base HS21.out (Below.refl w21.heap.size w21))
  have HB21 := hide (heldB HS21.out)
  go_upto_region 31 with fail
  go_region_held3 (fun w' => SQ w w21 w' (.slice a N.pcs.length cap) (.slice a' N.jts.length cap') ok far (.slice z ss.length zc) (.slice zl ls.length zlc) q at' wy)
    (first
      | (exact keepQ h21 HSB21.out)
      | (exact keepQ (by assumption) (by assumption)))
    (first
      | (go_at_call 7; refine (toNet_any a a' N cap cap' _ hn (HP.out.later (HB21.out.trans (h21.mono HB21.out.size))) hl HLM.out (HJ.out.later (HB21.out.trans (h21.mono HB21.out.size)))).mono ?_; rintro e w22 ⟨b1, b2, rfl, hO, hbN⟩)
      | (go_at_call 8; refine (toPath_any z zl ss ls zc zlc ok far _ hxs hys (HZ.out.later (HB21.out.trans ((chn h21 hbN).mono HB21.out.size))) (HZL.out.later (HB21.out.trans ((chn h21 hbN).mono HB21.out.size)))).mono ?_; rintro e w23 ⟨g1, g2, rfl, hPO, hbP⟩)
      | (go_at_call 9; refine (toSpot_any _ _ _ _).mono ?_; rintro e w24 ⟨rfl, hbE⟩)
      | (go_at_call 10; refine (implStretch_any _ _ _ _ N _ _ _ _ ok far ss _ q at' wy _ HWF.out hn HNS.out hl HLS.out hxs (hO.later (chn hbP hbE)).2.2.2.1 (hO.later (chn hbP hbE)).2.2.2.2.at (hPO.later hbE).s1).mono ?_; rintro e w25 ⟨v, rfl, how, hbJ⟩))
  rename_i hH
  rw [HPSD.out] at how
  obtain ⟨x, xc, rfl, hNP⟩ := newParts how
  have HXP := hide hNP.1
  have h2125 := hH.2.out
  have HB25 := hide (HB21.out.trans (h2125.mono HB21.out.size))
  have HZP := hide (HZP.out.later h2125)
  have HMK := hide (HMK.out.later h2125)
  clear hH how hNP hbJ hbE hbP hbN hO hPO h2125 HSB21 HS21 h21 HB21
  go_wp2_with fail
  refine (eqPartS_same x zw ps xc zwc _ hps HXP.out HZP.out).mono ?_
  rintro e w26 ⟨rfl, hb26⟩
  have HB26 := hide (HB25.out.trans (hb26.mono HB25.out.size))
  have HMK := hide (HMK.out.later hb26)
  clear hb26
  go_wp2_with fail
  refine (heldParts_own yc HMK.out hps).mono ?_
  rintro e w26' ⟨rfl, rfl⟩
  go_wp2_with fail
  go_ret
  exact ⟨rfl, HB26.out⟩
end Go.Proofs.YtncanhbmbjoamacGreat
