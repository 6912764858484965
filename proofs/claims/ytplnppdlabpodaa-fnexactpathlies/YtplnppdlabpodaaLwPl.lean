/- The law FnExactPathLies' walk. Own work. -/
import Derived.Test.YtplnppdlabpodaaLhS
import Derived.Test.YtplnppdlabpodaaWsC
import Derived.Test.YtplnppdlabpodaaWaE
import Derived.Test.YtplnppdlabpodaaMkC
import Derived.Test.YtplnppdlabpodaaMxAA
namespace Go.Proofs.Ytplnppdlabpodaa
open Go.RowKit
set_option maxHeartbeats 8000000

/-- A list of lies that a call has made from block B on, or none. -/
def NewL (B : Nat) (w : World) (z : Option Addr) (ps : List (Int × Int)) : Prop :=
  EndsAt w z ps ∧ (ps.length = 0 ∨ ∃ b m, B ≤ b ∧ b < w.heap.size ∧ z = some ⟨b, 0, none⟩ ∧ ps.length * 2 ≤ m ∧ Row w b 132 m)
theorem newL {w : World} {base : Nat} {v : Value} {ps : List (Int × Int)} (h : w.ownsRow base 132 2 v ps.length (lieCells ps)) : ∃ z zc, v = .slice z ps.length zc ∧ NewL base w z ps := by
  rcases lies_of_owns h with ⟨rfl, rfl⟩ | ⟨b, cap, rfl, hb, hn, hP, hR⟩
  · exact ⟨none, 0, rfl, fun k hk => by simp at hk, .inl rfl⟩
  · exact ⟨_, cap, rfl, hP, .inr ⟨b, cap * 2, hb, by obtain ⟨f, hf⟩ := hR; exact hf.lt, rfl, by omega, hR⟩⟩
theorem NewL.later {B : Nat} {w w' : World} {z : Option Addr} {ps : List (Int × Int)} (h : NewL B w z ps) (hb : Below w.heap.size w w') : NewL B w' z ps := by
  refine ⟨h.1.later hb, ?_⟩
  rcases h.2 with h | ⟨b, m, h1, h2, h3, h4, h5⟩
  · exact .inl h
  · exact .inr ⟨b, m, h1, Nat.lt_of_lt_of_le h2 hb.size, h3, h4, h5.later hb⟩
theorem EndsAt.midL {B C : Nat} {w w' : World} {z : Option Addr} {ps : List (Int × Int)} (h : EndsAt w z ps) (hm : Mid B C w w') (hz : ∀ b off, z = some ⟨b, off, none⟩ → ps.length = 0 ∨ b < B ∨ C ≤ b) : EndsAt w' z ps := by
  intro k hk
  obtain ⟨b, off, ha, h1, h2⟩ := h k hk
  have hb' : b < B ∨ C ≤ b := by rcases hz b off ha with h | h <;> omega
  exact ⟨b, off, ha, hm.cell hb' h1, hm.cell hb' h2⟩
theorem NewL.lt {B : Nat} {w : World} {z : Option Addr} {ps : List (Int × Int)} (h : NewL B w z ps) : ∀ b off, z = some ⟨b, off, none⟩ → ps.length = 0 ∨ (B ≤ b ∧ b < w.heap.size) := by
  intro b off hab
  rcases h.2 with h | ⟨b', m, h1, h2, h3, _⟩
  · exact .inl h
  · rw [h3] at hab
    obtain ⟨rfl, rfl⟩ : b' = b ∧ 0 = off := by simpa using hab
    exact .inr ⟨h1, h2⟩
theorem NewL.mid {B0 B C : Nat} {w w' : World} {z : Option Addr} {ps : List (Int × Int)} (h : NewL B0 w z ps) (hm : Mid B C w w') (hz : ∀ b, z = some ⟨b, 0, none⟩ → b < w.heap.size → B0 ≤ b → (b < B ∨ C ≤ b)) : NewL B0 w' z ps := by
  rcases h.2 with h0 | ⟨b, m, h1, h2, rfl, h4, h5⟩
  · exact ⟨fun k hk => by omega, .inl h0⟩
  · have hb := hz b rfl h2 h1
    refine ⟨fun k hk => ?_, .inr ⟨b, m, h1, Nat.lt_of_lt_of_le h2 hm.size, rfl, h4, hm.row hb h5⟩⟩
    obtain ⟨b', off, e, c0, c1⟩ := h.1 k hk
    obtain ⟨rfl, rfl⟩ : b = b' ∧ 0 = off := by simpa using e
    exact ⟨b, 0, rfl, hm.cell hb c0, hm.cell hb c1⟩
theorem markedL {w w' : World} {a : Option Addr} {n : Nat} {k : Int} (h : Marked w a n k) (hb : Below w.heap.size w w') : Marked w' a n k := by
  intro i hi
  obtain ⟨b, ha, h1, h2⟩ := h i hi
  exact ⟨b, ha, cell_later' hb h1, cell_later' hb h2⟩
theorem markLies_own {B : Nat} {w : World} {z : Option Addr} {ps : List (Int × Int)} (zc : Nat) (h : NewL B w z ps) (hn : ps.length ≤ 1048576) :
    Calls Try.prog 61 #[.slice z ps.length zc, .int .i64 1] w fun e w' => e = .returned (.int .i64 (1 + 2 * ps.length)) ∧ Mid B w.heap.size w w' ∧ Marked w' z ps.length 1 := by
  rcases h.2 with h0 | ⟨b, m, h1, h2, rfl, h4, h5⟩
  · rw [h0]
    refine (markLieS_none z zc 1 w).mono ?_
    rintro e w' ⟨rfl, rfl⟩
    exact ⟨by simp, Mid.refl _ _ _, fun i hi => by omega⟩
  · refine (markLieS_some b ps.length zc m 1 w hn h4 (by omega) (by omega) h5).mono ?_
    rintro e w' ⟨rfl, hm, _, hmk⟩
    exact ⟨rfl, hm.wide h1 (by omega), hmk⟩
theorem szStepS_any (a : Option Addr) (n cap : Nat) (left : Int) (w : World) (hn : n ≤ maxLen) (h0 : 0 ≤ left) (h1 : left ≤ 1048576) :
    Calls Try.prog 54 #[.slice a n cap, .int .i64 left] w fun e w' =>
    ∃ r : Int, e = .returned (.int .i64 r) ∧ (0 ≤ r → n ≤ 1048576) ∧ Below w.heap.size w w' := by
  unfold maxLen at hn
  go_enter Try.func54, Try.ntmps54
  go_wp2
  all_goals go_ret
  · exact ⟨-1, rfl, by omega, Below.refl _ _⟩
  · exact ⟨_, rfl, by omega, Below.refl _ _⟩

/-- The box of the net that came in and the box of the net that was handed over. -/
abbrev LY2 (w wx : World) (v0 v1 : Value) (b : Nat) (u0 u1 : Value) (wb : World) : Prop := (LY w wx v0 v1 ∧ wx.cell? ⟨b, 0, none⟩ = some u0 ∧ wx.cell? ⟨b, 1, none⟩ = some u1) ∧ Hid (Below wb.heap.size wb wx)
theorem keepY2 {w w2 w3 wb : World} {v0 v1 : Value} {b : Nat} {u0 u1 : Value} (hb : Below w2.heap.size w2 w3) (h : LY2 w w2 v0 v1 b u0 u1 wb) : LY2 w w3 v0 v1 b u0 u1 wb :=
  ⟨⟨keepY hb h.1.1, cell_later' hb h.1.2.1, cell_later' hb h.1.2.2⟩, h.2.out.trans (hb.mono h.2.out.size)⟩
theorem LY.mid {B C : Nat} {w w1 w2 : World} {v0 v1 : Value} (h : LY w w1 v0 v1) (hm : Mid B C w1 w2) (hB : w.heap.size < B) (hw : B ≤ w1.heap.size) : LY w w2 v0 v1 :=
  ⟨⟨hm.cell (.inl (by omega)) h.1.1, hm.cell (.inl (by omega)) h.1.2⟩, h.2.out.trans ((hm.below hw).mono (by omega))⟩

theorem fnPathLies_walk (a a' zl : Option Addr) (N : Nt) (cap cap' zlc : Nat) (ss : List (Int × Int)) (w : World) (hp : PcsAt w a N.pcs) (hj : JtsAt w a' N.jts) (hz : EndsAt w zl ss) (hn : N.pcs.length ≤ maxLen ∧ ∀ p ∈ N.pcs, p.name.size ≤ maxLen) (hl : N.jts.length ≤ maxLen ∧ ∀ j ∈ N.jts, j.name.size ≤ maxLen ∧ j.ends.length ≤ maxLen) (hx : ss.length ≤ maxLen) :
    Calls Try.prog 13 #[.agg #[.slice a N.pcs.length cap, .slice a' N.jts.length cap'], .slice zl ss.length zlc] w fun e w' =>
    e = .returned (.bool true) ∧ Below w.heap.size w w' := by
  have HP := hide hp
  have HJ := hide hj
  have HZ := hide hz
  have HN := hide hn
  have HL := hide hl
  have HX := hide hx
  clear hp hj hz hn hl hx
  have hbW : Below w.heap.size w (w.alloc (.cells #[.slice a N.pcs.length cap, .slice a' N.jts.length cap'] 25)) := (Below.refl _ _).alloc (Nat.le_refl _) _
  have HLY0 : Hid (LY w (w.alloc (.cells #[.slice a N.pcs.length cap, .slice a' N.jts.length cap'] 25)) (.slice a N.pcs.length cap) (.slice a' N.jts.length cap')) := ⟨⟨new_cell w _ _ 0 _ rfl, new_cell w _ _ 1 _ rfl⟩, hbW⟩
  go_enter Try.func13, Try.ntmps13
  go_wp2_with fail
  generalize w.alloc (.cells #[.slice a N.pcs.length cap, .slice a' N.jts.length cap'] 25) = w0 at *
  refine (szNet_any a a' N cap cap' 1048576 _ HN.out.1 (HP.out.later hbW) HN.out.2 HL.out.1 (HJ.out.later hbW) HL.out.2 (by omega) (by omega)).mono ?_
  rintro e w1 ⟨r, rfl, hr1, hr2, hr3, hb1⟩
  have HLY1 := hide (keepY hb1 HLY0.out)
  have HR := hide hr3
  clear hr3 hb1 HLY0 hbW
  by_cases hr : r < 0
  · go_wp2_with fail
    go_ret
    exact ⟨rfl, heldB HLY1.out⟩
  have hrr : decide (r < 0) = false := by rw [decide_eq_false_iff_not]; exact hr
  obtain ⟨⟨hn, hns⟩, hl, hls⟩ := HR.out (by omega)
  have HNS := hide hns
  have HLS := hide hls
  have HLM := hide (fun j (hj : j ∈ N.jts) => (HLS.out j hj).2)
  have hr0 : 0 ≤ r := by omega
  clear hns hls hr HR
  go_wp2_with fail
  refine (szStepS_any zl ss.length zlc r _ HX.out hr0 hr2).mono ?_
  rintro e w2 ⟨r2, rfl, hr4, hb2⟩
  have HLY2 := hide (keepY hb2 HLY1.out)
  clear hb2 HLY1 hrr
  by_cases hr5 : r2 < 0
  · go_wp2_with fail
    go_ret
    exact ⟨rfl, heldB HLY2.out⟩
  have hrr2 : decide (r2 < 0) = false := by rw [decide_eq_false_iff_not]; exact hr5
  have hxs : ss.length ≤ 1048576 := hr4 (by omega)
  clear hr4 hr5
  obtain ⟨⟨t0, t1⟩, hB2⟩ := HLY2.out
  go_wp2_with fail
  refine (toNet_any a a' N cap cap' _ hn (HP.out.later hB2.out) hl HLM.out (HJ.out.later hB2.out)).mono ?_
  rintro e w3 ⟨b1, b2, rfl, hO3, hb3⟩
  have HLY3 := hide (keepY hb3 HLY2.out)
  have HO3 := hide hO3
  clear hb3 hO3 HLY2 t0 t1 hB2 hrr2
  go_wp2_with fail
  refine (toStepS_any zl ss zlc _ hxs (HZ.out.later (heldB HLY3.out))).mono ?_
  rintro e w4 ⟨rfl, _, hI4, hb4⟩
  have HLY4 := hide (keepY hb4 HLY3.out)
  have HO4 := hide (HO3.out.later hb4)
  have HI4 := hide hI4
  clear hb4 hI4 HO3 HLY3
  go_wp2_with fail
  refine (specPathLies_any _ _ _ N _ _ _ ss _ hn HNS.out hl HLS.out hxs HO4.out.2.2.2.1 HO4.out.2.2.2.2.at HI4.out).mono ?_
  rintro e w5 ⟨v, rfl, how, hpl, hb5⟩
  have HLY5 := hide (keepY hb5 HLY4.out)
  generalize hq : (liesQ N ss).getD [] = ps at how hpl
  have HQ := hide hq
  have hps : ps.length ≤ 1048576 := by omega
  obtain ⟨z, zc, rfl, hNP⟩ := newL how
  have HZP := hide hNP.1
  have HZB := hide (show ∀ b off, z = some ⟨b, off, none⟩ → ps.length = 0 ∨ b < w5.heap.size from fun b off h => (hNP.lt b off h).imp id (fun h => h.2))
  have hw5 : w.heap.size < w5.heap.size := cell_lt HLY5.out.1.1
  clear how hNP hb5 hpl hq HLY4 HO4 HI4
  obtain ⟨⟨t0, t1⟩, hB5⟩ := HLY5.out
  go_wp2_with fail
  refine (toNet_any a a' N cap cap' _ hn (HP.out.later hB5.out) hl HLM.out (HJ.out.later hB5.out)).mono ?_
  rintro e w6 ⟨c1, c2, rfl, hO, hb6⟩
  have hc1 := hO.1
  have hc2 := hO.2.1
  have HRJ := hide hO.2.2.2.2.rows
  have h56 := hb6.size
  have hA := (Below.refl w6.heap.size w6).alloc (Nat.le_refl _) (.cells #[.slice (some ⟨c1, 0, none⟩) N.pcs.length N.pcs.length, .slice (some ⟨c2, 0, none⟩) N.jts.length N.jts.length] 33)
  have v0 := new_cell w6 #[.slice (some ⟨c1, 0, none⟩) N.pcs.length N.pcs.length, .slice (some ⟨c2, 0, none⟩) N.jts.length N.jts.length] 33 0 _ rfl
  have v1 := new_cell w6 #[.slice (some ⟨c1, 0, none⟩) N.pcs.length N.pcs.length, .slice (some ⟨c2, 0, none⟩) N.jts.length N.jts.length] 33 1 _ rfl
  have hs7 : w6.heap.size < (w6.alloc (.cells #[.slice (some ⟨c1, 0, none⟩) N.pcs.length N.pcs.length, .slice (some ⟨c2, 0, none⟩) N.jts.length N.jts.length] 33)).heap.size := by simp
  have HLY7 := hide (keepY (chn hb6 hA) HLY5.out)
  have HO7 := hide (hO.later hA)
  have HRJ := hide (HRJ.out.later hA)
  have HZP := hide (HZP.out.later (chn hb6 hA))
  clear hO hA hb6 HLY5 t0 t1 hB5
  go_wp2_with fail
  generalize w6.alloc (.cells #[.slice (some ⟨c1, 0, none⟩) N.pcs.length N.pcs.length, .slice (some ⟨c2, 0, none⟩) N.jts.length N.jts.length] 33) = w7 at *
  refine (toStepS_any zl ss zlc _ hxs (HZ.out.later (heldB HLY7.out))).mono ?_
  rintro e w8 ⟨rfl, hRI, hI, hb8⟩
  have h78 := hb8.size
  have HLY8 := hide (keepY hb8 HLY7.out)
  have HO8 := hide (HO7.out.later hb8)
  have HRJ := hide (HRJ.out.later hb8)
  have HZP := hide (HZP.out.later hb8)
  have HRI := hide hRI
  have HI8 := hide hI
  have v0 := cell_later' hb8 v0
  have v1 := cell_later' hb8 v1
  have hi7 : w7.heap.size < w8.heap.size := by obtain ⟨f, hf⟩ := hRI; exact hf.lt
  clear hRI hI hb8 HLY7 HO7
  go_wp2_with fail
  refine (implPathLies_any _ _ _ N _ _ _ ss _ hn HNS.out hl HLS.out hxs HO8.out.2.2.2.1 HO8.out.2.2.2.2.at HI8.out).mono ?_
  rintro e w10 ⟨v, rfl, how, _, hb10⟩
  rw [HQ.out] at how
  obtain ⟨y, yc, rfl, hNP⟩ := newL how
  have HYP := hide hNP
  have h810 := hb10.size
  have HLY10 := hide (keepY hb10 HLY8.out)
  have v0 := cell_later' hb10 v0
  have v1 := cell_later' hb10 v1
  have HO10 := hide (HO8.out.later hb10)
  have HRJ := hide (HRJ.out.later hb10)
  have HZP := hide (HZP.out.later hb10)
  have HRI := hide (HRI.out.later hb10)
  have HI10 := hide (HI8.out.later hb10)
  clear how hNP hb10 HLY8 HO8 HI8
  go_wp2_with fail
  refine (eqLieS_same y z ps yc zc _ hps HYP.out.1 HZP.out).mono ?_
  rintro e w11 ⟨rfl, hb11⟩
  have HLY11 := hide (keepY hb11 HLY10.out)
  have HO11 := hide (HO10.out.later hb11)
  have HRJ := hide (HRJ.out.later hb11)
  have HZP := hide (HZP.out.later hb11)
  have HYP := hide (HYP.out.later hb11)
  have HRI := hide (HRI.out.later hb11)
  have HI11 := hide (HI10.out.later hb11)
  have v0 := cell_later' hb11 v0
  have v1 := cell_later' hb11 v1
  have h1011 := hb11.size
  clear hb11 HLY10 HO10 HI10
  have h11 : Below w11.heap.size w11 w11.drew := (Below.refl _ _).drew
  go_upto_region 14 with fail
  go_region_held3 (fun w' => LY2 w w' (.slice a N.pcs.length cap) (.slice a' N.jts.length cap') w6.heap.size (.slice (some ⟨c1, 0, none⟩) N.pcs.length N.pcs.length) (.slice (some ⟨c2, 0, none⟩) N.jts.length N.jts.length) w11)
    (first
      | (exact ⟨⟨keepY h11 HLY11.out, cell_later' h11 v0, cell_later' h11 v1⟩, h11⟩)
      | (exact keepY2 (by assumption) (by assumption)))
    (first
      | (go_at_call 16; refine (toNet_any a a' N cap cap' _ hn (HP.out.later (heldB HLY11.out |>.trans (h11.mono (heldB HLY11.out).size))) hl HLM.out (HJ.out.later (heldB HLY11.out |>.trans (h11.mono (heldB HLY11.out).size)))).mono ?_; rintro e w12 ⟨d1, d2, rfl, hO12, hb12⟩)
      | (go_at_call 19; refine (eqNet_same _ _ _ _ N _ _ _ _ _ hn hl HLM.out (HO11.out.later (chn h11 hb12)).2.2.2.1 hO12.2.2.2.1 (HO11.out.later (chn h11 hb12)).2.2.2.2.at hO12.2.2.2.2.at).mono ?_; rintro e w13 ⟨rfl, hb13⟩))
  rename_i hH
  have h13 := hH.2.out
  have h1113 := h13.size
  have HLY13 := hide hH.1.1
  have v0 := hH.1.2.1
  have v1 := hH.1.2.2
  have HR1 := hide (HO11.out.2.2.1.later h13)
  have HRJ := hide (HRJ.out.later h13)
  have HZP := hide (HZP.out.later h13)
  have HYP := hide (HYP.out.later h13)
  have HRI := hide (HRI.out.later h13)
  have HI13 := hide (HI11.out.later h13)
  clear hH h13 hb12 hb13 hO12 HLY11 HO11 HI11 h11
  go_wp2_with fail
  refine (toStepS_any zl ss zlc _ hxs (HZ.out.later (heldB HLY13.out))).mono ?_
  rintro e w14 ⟨rfl, _, hI14, hb14⟩
  have HI14 := hide hI14
  have HJ14 := hide (HI13.out.later hb14)
  clear hI14 HI13
  go_wp2_with fail
  refine (eqStepS_same _ _ ss _ _ _ hxs HJ14.out HI14.out).mono ?_
  rintro e w15 ⟨rfl, hb15⟩
  have h1315 := chn hb14 hb15
  have HLY15 := hide (keepY h1315 HLY13.out)
  have HR1 := hide (HR1.out.later h1315)
  have HRJ := hide (HRJ.out.later h1315)
  have HZP := hide (HZP.out.later h1315)
  have HYP := hide (HYP.out.later h1315)
  have HRI := hide (HRI.out.later h1315)
  have v0 := cell_later' h1315 v0
  have v1 := cell_later' h1315 v1
  have hs15 := h1315.size
  clear h1315 hb14 hb15 HLY13 HI14 HJ14
  go_wp2_with fail
  refine (markNet_any w5.heap.size c1 c2 w6.heap.size _ _ N 1 _ hn hl HLM.out (by omega) (by omega) hc1 hc2 HR1.out HRJ.out).mono ?_
  rintro e w16 ⟨k', rfl, hk', hm16⟩
  have hs16 := hm16.size
  have HLY16 := hide (HLY15.out.mid hm16 hw5 (by omega))
  have HZP := hide (HZP.out.midL hm16 (fun b off h => (HZB.out b off h).imp id (fun h => .inl h)))
  have HYP := hide (HYP.out.mid hm16 (fun b _ _ h => .inr (by omega)))
  have HRI := hide (hm16.row (.inr (by omega)) HRI.out)
  clear hm16 HR1 HRJ HLY15 v0 v1
  go_wp2_with fail
  refine (markStepS_some w7.heap.size ss.length _ (ss.length * 2) k' _ hxs (Nat.le_refl _) (by omega) (by omega) HRI.out).mono ?_
  rintro e w17 ⟨rfl, hm17, _⟩
  have hs17 := hm17.size
  have HLY17 := hide (HLY16.out.mid hm17 (by omega) (by omega))
  have HZP := hide (HZP.out.midL hm17 (fun b off h => (HZB.out b off h).imp id (fun h => .inl (by omega))))
  have HYP := hide (HYP.out.mid hm17 (fun b _ _ h => .inr (by omega)))
  have hk2 : decide (k' + 2 * (ss.length : Int) < 0) = false := by rw [decide_eq_false_iff_not]; omega
  clear hm17 HRI HLY16
  go_wp2_with fail
  refine (eqLieS_same y z ps yc zc _ hps HYP.out.1 HZP.out).mono ?_
  rintro e w18 ⟨rfl, hb18⟩
  have hs18 := hb18.size
  have HLY18 := hide (keepY hb18 HLY17.out)
  have HZP := hide (HZP.out.later hb18)
  have HYP := hide (HYP.out.later hb18)
  clear hb18 HLY17
  go_wp2_with fail
  refine (markLies_own yc HYP.out hps).mono ?_
  rintro e w19 ⟨rfl, hm19, hmk⟩
  have hs19 := hm19.size
  have HLY19 := hide (HLY18.out.mid hm19 (by omega) (by omega))
  have HZP := hide (HZP.out.midL hm19 (fun b off h => (HZB.out b off h).imp id (fun h => .inl (by omega))))
  have HMK := hide hmk
  clear hm19 hmk HYP HLY18
  go_wp2_with fail
  refine (heldLieS_any _ _ _ _ _ hps (by omega) (by omega) HMK.out).mono ?_
  rintro e w19' ⟨rfl, rfl⟩
  have hq1 : ((1 + 2 * (ps.length : Int)) != 1 + 2 * (ps.length : Int)) = false := by simp
  have hq2 : decide (1 + 2 * (ps.length : Int) < 0) = false := by rw [decide_eq_false_iff_not]; omega
  obtain ⟨⟨t0, t1⟩, hB19⟩ := HLY19.out
  go_wp2_with fail
  refine (toNet_any a a' N cap cap' _ hn (HP.out.later hB19.out) hl HLM.out (HJ.out.later hB19.out)).mono ?_
  rintro e w20 ⟨b1, b2, rfl, hO20, hb20⟩
  have HLY20 := hide (keepY hb20 HLY19.out)
  have HO20 := hide hO20
  have HZP := hide (HZP.out.later hb20)
  have HMK := hide (markedL HMK.out hb20)
  clear hb20 hO20 HLY19 t0 t1 hB19
  go_wp2_with fail
  refine (toStepS_any zl ss zlc _ hxs (HZ.out.later (heldB HLY20.out))).mono ?_
  rintro e w21 ⟨rfl, _, hI21, hb21⟩
  have HLY21 := hide (keepY hb21 HLY20.out)
  have HO21 := hide (HO20.out.later hb21)
  have HI21 := hide hI21
  have HZP := hide (HZP.out.later hb21)
  have HMK := hide (markedL HMK.out hb21)
  clear hb21 hI21 HO20 HLY20
  go_wp2_with fail
  refine (implPathLies_any _ _ _ N _ _ _ ss _ hn HNS.out hl HLS.out hxs HO21.out.2.2.2.1 HO21.out.2.2.2.2.at HI21.out).mono ?_
  rintro e w23 ⟨v, rfl, how, _, hb23⟩
  rw [HQ.out] at how
  obtain ⟨x, xc, rfl, hNP⟩ := newL how
  have HXP := hide hNP.1
  have HLY23 := hide (keepY hb23 HLY21.out)
  have HZP := hide (HZP.out.later hb23)
  have HMK := hide (markedL HMK.out hb23)
  clear how hNP hb23 HLY21
  go_wp2_with fail
  refine (eqLieS_same x z ps xc zc _ hps HXP.out HZP.out).mono ?_
  rintro e w24 ⟨rfl, hb24⟩
  have hB24 := (heldB HLY23.out).trans (hb24.mono (heldB HLY23.out).size)
  have HMK := hide (markedL HMK.out hb24)
  clear hb24
  go_wp2_with fail
  refine (heldLieS_any _ _ _ _ _ hps (by omega) (by omega) HMK.out).mono ?_
  rintro e w24' ⟨rfl, rfl⟩
  go_wp2_with fail
  go_ret
  exact ⟨rfl, hB24⟩
end Go.Proofs.Ytplnppdlabpodaa
