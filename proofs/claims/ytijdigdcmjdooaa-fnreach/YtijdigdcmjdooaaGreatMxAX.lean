/- through, asItLies. Own work. -/
import Derived.Test.YtijdigdcmjdooaaGreatMxAL
import Derived.Test.YtijdigdcmjdooaaGreatMxAB
import Derived.Deep.RegionHeld3
import Derived.Deep.RegionWith
import Derived.Deep.QuietTactic
import Derived.BigQuiet
import Derived.Test.YtijdigdcmjdooaaGreatDrS
import Derived.Test.YtijdigdcmjdooaaGreatMxAJ
namespace Go.Proofs.YtijdigdcmjdooaaGreat
open Go.RowKit
set_option maxHeartbeats 4000000

/-- What a walk over a joint holds on to: the cursor's joints, the joint, the box of the seat. -/
abbrev TS (w wx : World) (B : Nat) (sj : Value) (jb jo : Nat) (kd : Int) (nm : ByteArray) (es : Value) (x y z : Int) : Prop :=
  (wx.cell? ⟨B, 4, none⟩ = some sj ∧ wx.cell? ⟨jb, jo, none⟩ = some (.int .i64 kd) ∧ wx.cell? ⟨jb, jo + 1, none⟩ = some (.string nm) ∧ wx.cell? ⟨jb, jo + 2, none⟩ = some es ∧ wx.cell? ⟨w.heap.size, 0, none⟩ = some (.int .i64 x) ∧ wx.cell? ⟨w.heap.size, 1, none⟩ = some (.int .i64 y) ∧ wx.cell? ⟨w.heap.size, 2, none⟩ = some (.int .i64 z)) ∧ Hid (Below w.heap.size w wx)
theorem keepT {w w2 w3 : World} {B : Nat} {sj : Value} {jb jo : Nat} {kd : Int} {nm : ByteArray} {es : Value} {x y z : Int} (hb : Below w2.heap.size w2 w3) (h : TS w w2 B sj jb jo kd nm es x y z) : TS w w3 B sj jb jo kd nm es x y z :=
  ⟨⟨cell_later' hb h.1.1, cell_later' hb h.1.2.1, cell_later' hb h.1.2.2.1, cell_later' hb h.1.2.2.2.1, cell_later' hb h.1.2.2.2.2.1, cell_later' hb h.1.2.2.2.2.2.1, cell_later' hb h.1.2.2.2.2.2.2⟩, h.2.out.trans (hb.mono h.2.out.size)⟩
theorem keepT2 {w w2 : World} {B : Nat} {sj : Value} {jb jo : Nat} {kd : Int} {nm : ByteArray} {es : Value} {x y z : Int} (h : TS w w2 B sj jb jo kd nm es x y z) (hB : B < w.heap.size) (hj : jb < w.heap.size) (v v' : Value) :
    TS w ((w2.setCell ⟨w.heap.size + 1, 0, none⟩ v).setCell ⟨w.heap.size + 1, 1, none⟩ v') B sj jb jo kd nm es x y z := by
  have e : ∀ (W : World) (o : Nat) (v : Value) (b i : Nat) (u : Value), b < w.heap.size + 1 → W.cell? ⟨b, i, none⟩ = some u → (W.setCell ⟨w.heap.size + 1, o, none⟩ v).cell? ⟨b, i, none⟩ = some u := fun W o v b i u hb hu => by
    rw [World.cell?_setCell_far W ⟨w.heap.size + 1, o, none⟩ ⟨b, i, none⟩ v (by show w.heap.size + 1 ≠ b; omega)]; exact hu
  exact ⟨⟨e _ _ _ _ _ _ (by omega) (e _ _ _ _ _ _ (by omega) h.1.1), e _ _ _ _ _ _ (by omega) (e _ _ _ _ _ _ (by omega) h.1.2.1), e _ _ _ _ _ _ (by omega) (e _ _ _ _ _ _ (by omega) h.1.2.2.1), e _ _ _ _ _ _ (by omega) (e _ _ _ _ _ _ (by omega) h.1.2.2.2.1), e _ _ _ _ _ _ (by omega) (e _ _ _ _ _ _ (by omega) h.1.2.2.2.2.1), e _ _ _ _ _ _ (by omega) (e _ _ _ _ _ _ (by omega) h.1.2.2.2.2.2.1), e _ _ _ _ _ _ (by omega) (e _ _ _ _ _ _ (by omega) h.1.2.2.2.2.2.2)⟩, (h.2.out.setCell (by show w.heap.size ≤ w.heap.size + 1; omega) _).setCell (by show w.heap.size ≤ w.heap.size + 1; omega) _⟩

theorem through_any (B n : Nat) (a' : Option Addr) (cap' : Nat) (js : List Jt) (j i : Nat) (z : Int) (L : List (Int × Int)) (w : World) (hj : j < js.length) (h3 : jb3 n js[j] = false) (hi : i < js[j].ends.length) (hL : acr js[j] i = L) (hpos : 0 < L.length) (hc : w.cell? ⟨B, 4, none⟩ = some (.slice a' js.length cap')) (hJ : JtsAt w a' js) :
    Calls Tryz.prog 145 #[.pointer (some ⟨B, 0, none⟩), .agg #[.int .i64 j, .int .i64 i, .int .i64 z]] w fun e w' => e = .returned (.tuple #[.agg #[.int .i64 L[0].1, .int .i64 L[0].2], .int .i64 0]) ∧ Below w.heap.size w w' := by
  obtain ⟨jb, jo, ea, ec, rfl, d0, d1, d2, dE⟩ := hJ j hj
  have hB := cell_lt hc
  have hjb := cell_lt d0
  have hji : (j : Int) < (js.length : Int) := by omega
  have hp1 : (0 : Int) < (L.length : Int) := by omega
  have HE := hide dE
  have HL := hide hL
  have H3 := hide h3
  clear hJ dE hL h3
  have hbW : Below w.heap.size w ((w.alloc (.cells #[.int .i64 j, .int .i64 i, .int .i64 z] 159)).alloc (.cells #[.int .i64 0, .int .i64 0] 92)) := ((Below.refl _ _).alloc (Nat.le_refl _) _).alloc (by simp) _
  have hTS : TS w ((w.alloc (.cells #[.int .i64 j, .int .i64 i, .int .i64 z] 159)).alloc (.cells #[.int .i64 0, .int .i64 0] 92)) B (.slice (some ⟨jb, jo, none⟩) js.length cap') jb (jo + j * 3) js[j].kind js[j].name (.slice ea js[j].ends.length ec) j i z :=
    ⟨⟨cell_later' hbW hc, cell_later' hbW d0, cell_later' hbW d1, cell_later' hbW d2, by simp [go_sem], by simp [go_sem], by simp [go_sem]⟩, hbW⟩
  have HTS := hide hTS
  have r0 : ((w.alloc (.cells #[.int .i64 j, .int .i64 i, .int .i64 z] 159)).alloc (.cells #[.int .i64 0, .int .i64 0] 92)).cell? ⟨w.heap.size + 1, 0, none⟩ = some (.int .i64 0) := by simp [go_sem]
  have r1 : ((w.alloc (.cells #[.int .i64 j, .int .i64 i, .int .i64 z] 159)).alloc (.cells #[.int .i64 0, .int .i64 0] 92)).cell? ⟨w.heap.size + 1, 1, none⟩ = some (.int .i64 0) := by simp [go_sem]
  have g0 : ((w.alloc (.cells #[.int .i64 j, .int .i64 i, .int .i64 z] 159)).alloc (.cells #[.int .i64 0, .int .i64 0] 92)).frozen? ⟨w.heap.size + 1, 0, none⟩ = false := by simp [go_sem]
  have g1 : ((w.alloc (.cells #[.int .i64 j, .int .i64 i, .int .i64 z] 159)).alloc (.cells #[.int .i64 0, .int .i64 0] 92)).frozen? ⟨w.heap.size + 1, 1, none⟩ = false := by simp [go_sem]
  clear hTS hbW d0 d1 d2 hc
  go_enter Tryz.func145, Tryz.ntmps145
  go_upto_region 1 with fail
  generalize ((w.alloc (.cells #[.int .i64 j, .int .i64 i, .int .i64 z] 159)).alloc (.cells #[.int .i64 0, .int .i64 0] 92)) = w1 at *
  obtain ⟨⟨t0, t1, t2, t3, t4, t5, t6⟩, hB1⟩ := HTS.out
  have h11 : Below w1.heap.size w1 w1.drew := (Below.refl _ _).drew
  have HE1 := hide (HE.out.later (hB1.out.trans (h11.mono hB1.out.size)))
  clear HTS
  go_region_with (first
      | (go_at_call 89; refine (over_any n js[j] ea ec i _ H3.out hi HE1.out).mono ?_; rintro e w2 ⟨v, rfl, hNE, hb2⟩; have hb12 := chn h11 hb2; rw [HL.out] at hNE; obtain ⟨ea2, ec2, rfl, hEA, _⟩ := hNE; obtain ⟨eb, eo, rfl, x0, x1⟩ := hEA 0 hpos; have y0 := cell_later' hb12 r0; have y1 := cell_later' hb12 r1; have z0 := frozen_later hb12 r0 g0; have z1 := frozen_later hb12 r1 g1; have HB2 := hide (hB1.out.trans (hb12.mono hB1.out.size)); clear hEA hb12 hb2 r0 r1 g0 g1 t0 t1 t2 t3 t4 t5 t6; simp only [Nat.zero_mul, Nat.add_zero] at x0 x1))
  all_goals
    go_wp2_with fail
    exact bodyPost_ret (v := .tuple #[.agg #[.int .i64 L[0].1, .int .i64 L[0].2], .int .i64 0]) (by simp [results, Tryz.results145, go_sem, y0, y1]) rfl ⟨rfl, (HB2.out.setCell (by show w.heap.size ≤ w.heap.size + 1; omega) _).setCell (by show w.heap.size ≤ w.heap.size + 1; omega) _⟩
end Go.Proofs.YtijdigdcmjdooaaGreat

/- asItLies from the tip of a switch that lies 1. Own work. -/
namespace Go.Proofs.YtijdigdcmjdooaaGreat
open Go.RowKit
set_option maxHeartbeats 4000000

theorem asItLies_tip1 (B n : Nat) (a' zb : Option Addr) (cap' zc : Nat) (js : List Jt) (xs : List Int) (j : Nat) (z : Int) (L : List (Int × Int)) (w : World) (hj : j < js.length) (hxj : j < xs.length) (hx : xs[j] = 1) (h3 : jb3 n js[j] = false) (hi : 0 < js[j].ends.length) (hL : acr js[j] 0 = L) (hpos : 0 < L.length) (hc : w.cell? ⟨B, 4, none⟩ = some (.slice a' js.length cap')) (hc5 : w.cell? ⟨B, 5, none⟩ = some (.slice zb xs.length zc)) (hJ : JtsAt w a' js) (hZ : IntsAt w zb xs) :
    Calls Tryz.prog 144 #[.pointer (some ⟨B, 0, none⟩), .agg #[.int .i64 j, .int .i64 0, .int .i64 z]] w fun e w' => e = .returned (.tuple #[.agg #[.int .i64 L[0].1, .int .i64 L[0].2], .int .i64 0]) ∧ Below w.heap.size w w' := by
  obtain ⟨jb, jo, ea, ec, rfl, d0, d1, d2, dE⟩ := hJ j hj
  obtain ⟨zk, zo, rfl, l0⟩ := hZ j hxj
  rw [hx] at l0
  have hB := cell_lt hc
  have hjb := cell_lt d0
  have hzk := cell_lt l0
  have hji : (j : Int) < (js.length : Int) := by omega
  have hxi : (j : Int) < (xs.length : Int) := by omega
  have hp1 : (0 : Int) < (L.length : Int) := by omega
  have HE := hide dE
  have HL := hide hL
  have H3 := hide h3
  clear hJ dE hL h3 hZ hx
  have hbW : Below w.heap.size w ((w.alloc (.cells #[.int .i64 j, .int .i64 0, .int .i64 z] 159)).alloc (.cells #[.int .i64 0, .int .i64 0] 92)) := ((Below.refl _ _).alloc (Nat.le_refl _) _).alloc (by simp) _
  have hTS : TS w ((w.alloc (.cells #[.int .i64 j, .int .i64 0, .int .i64 z] 159)).alloc (.cells #[.int .i64 0, .int .i64 0] 92)) B (.slice (some ⟨jb, jo, none⟩) js.length cap') jb (jo + j * 3) js[j].kind js[j].name (.slice ea js[j].ends.length ec) j 0 z :=
    ⟨⟨cell_later' hbW hc, cell_later' hbW d0, cell_later' hbW d1, cell_later' hbW d2, by simp [go_sem], by simp [go_sem], by simp [go_sem]⟩, hbW⟩
  have HTS := hide hTS
  have m5 := cell_later' hbW hc5
  have m6 := cell_later' hbW l0
  have r0 : ((w.alloc (.cells #[.int .i64 j, .int .i64 0, .int .i64 z] 159)).alloc (.cells #[.int .i64 0, .int .i64 0] 92)).cell? ⟨w.heap.size + 1, 0, none⟩ = some (.int .i64 0) := by simp [go_sem]
  have r1 : ((w.alloc (.cells #[.int .i64 j, .int .i64 0, .int .i64 z] 159)).alloc (.cells #[.int .i64 0, .int .i64 0] 92)).cell? ⟨w.heap.size + 1, 1, none⟩ = some (.int .i64 0) := by simp [go_sem]
  have g0 : ((w.alloc (.cells #[.int .i64 j, .int .i64 0, .int .i64 z] 159)).alloc (.cells #[.int .i64 0, .int .i64 0] 92)).frozen? ⟨w.heap.size + 1, 0, none⟩ = false := by simp [go_sem]
  have g1 : ((w.alloc (.cells #[.int .i64 j, .int .i64 0, .int .i64 z] 159)).alloc (.cells #[.int .i64 0, .int .i64 0] 92)).frozen? ⟨w.heap.size + 1, 1, none⟩ = false := by simp [go_sem]
  clear hTS hbW d0 d1 d2 hc hc5 l0
  go_enter Tryz.func144, Tryz.ntmps144
  go_upto_region 1 with fail
  generalize ((w.alloc (.cells #[.int .i64 j, .int .i64 0, .int .i64 z] 159)).alloc (.cells #[.int .i64 0, .int .i64 0] 92)) = w0 at *
  obtain ⟨⟨t0, t1, t2, t3, t4, t5, t6⟩, hB0⟩ := HTS.out
  clear HTS
  go_quiet (fail)
  have hq := below_drewN (Below.refl w0.heap.size w0) nq
  generalize w0.drewN nq = w1 at hq ⊢
  have hB1 := hide (hB0.out.trans (hq.mono hB0.out.size))
  have t0 := cell_later' hq t0
  have t1 := cell_later' hq t1
  have t2 := cell_later' hq t2
  have t3 := cell_later' hq t3
  have t4 := cell_later' hq t4
  have t5 := cell_later' hq t5
  have t6 := cell_later' hq t6
  have g0 := frozen_later hq r0 g0
  have g1 := frozen_later hq r1 g1
  have r0 := cell_later' hq r0
  have r1 := cell_later' hq r1
  clear hq m5 m6 hB0
  go_upto_region 5 with fail
  have hw0 : IntKind.i64.wrap 0 = 0 := by decide
  have h11 : Below w1.heap.size w1 w1.drew := (Below.refl _ _).drew
  have HE1 := hide (HE.out.later (hB1.out.trans (h11.mono hB1.out.size)))
  go_region_with (first
      | (go_at_call 89; refine (over_any n js[j] ea ec 0 _ H3.out hi HE1.out).mono ?_; rintro e w2 ⟨v, rfl, hNE, hb2⟩; have hb12 := chn h11 hb2; rw [HL.out] at hNE; obtain ⟨ea2, ec2, rfl, hEA, _⟩ := hNE; obtain ⟨eb, eo, rfl, x0, x1⟩ := hEA 0 hpos; have y0 := cell_later' hb12 r0; have y1 := cell_later' hb12 r1; have z0 := frozen_later hb12 r0 g0; have z1 := frozen_later hb12 r1 g1; have HB2 := hide (hB1.out.trans (hb12.mono hB1.out.size)); clear hEA hb12 hb2 r0 r1 g0 g1 t0 t1 t2 t3 t4 t5 t6; simp only [Nat.zero_mul, Nat.add_zero] at x0 x1))
  all_goals
    go_wp2_with fail
    exact bodyPost_ret (v := .tuple #[.agg #[.int .i64 L[0].1, .int .i64 L[0].2], .int .i64 0]) (by simp [results, Tryz.results144, go_sem, y0, y1]) rfl ⟨rfl, (HB2.out.setCell (by show w.heap.size ≤ w.heap.size + 1; omega) _).setCell (by show w.heap.size ≤ w.heap.size + 1; omega) _⟩
end Go.Proofs.YtijdigdcmjdooaaGreat

/- asItLies from the tip of a switch that lies 2. Own work. -/
namespace Go.Proofs.YtijdigdcmjdooaaGreat
open Go.RowKit
set_option maxHeartbeats 4000000

theorem asItLies_tip2 (B n : Nat) (a' zb : Option Addr) (cap' zc : Nat) (js : List Jt) (xs : List Int) (j : Nat) (z : Int) (L : List (Int × Int)) (w : World) (hj : j < js.length) (hxj : j < xs.length) (hx : xs[j] = 2) (h3 : jb3 n js[j] = false) (hi : 0 < js[j].ends.length) (hL : acr js[j] 0 = L) (hpos : 1 < L.length) (hc : w.cell? ⟨B, 4, none⟩ = some (.slice a' js.length cap')) (hc5 : w.cell? ⟨B, 5, none⟩ = some (.slice zb xs.length zc)) (hJ : JtsAt w a' js) (hZ : IntsAt w zb xs) :
    Calls Tryz.prog 144 #[.pointer (some ⟨B, 0, none⟩), .agg #[.int .i64 j, .int .i64 0, .int .i64 z]] w fun e w' => e = .returned (.tuple #[.agg #[.int .i64 L[1].1, .int .i64 L[1].2], .int .i64 0]) ∧ Below w.heap.size w w' := by
  obtain ⟨jb, jo, ea, ec, rfl, d0, d1, d2, dE⟩ := hJ j hj
  obtain ⟨zk, zo, rfl, l0⟩ := hZ j hxj
  rw [hx] at l0
  have hB := cell_lt hc
  have hjb := cell_lt d0
  have hzk := cell_lt l0
  have hji : (j : Int) < (js.length : Int) := by omega
  have hxi : (j : Int) < (xs.length : Int) := by omega
  have hp1 : (1 : Int) < (L.length : Int) := by omega
  have HE := hide dE
  have HL := hide hL
  have H3 := hide h3
  clear hJ dE hL h3 hZ hx
  have hbW : Below w.heap.size w ((w.alloc (.cells #[.int .i64 j, .int .i64 0, .int .i64 z] 159)).alloc (.cells #[.int .i64 0, .int .i64 0] 92)) := ((Below.refl _ _).alloc (Nat.le_refl _) _).alloc (by simp) _
  have hTS : TS w ((w.alloc (.cells #[.int .i64 j, .int .i64 0, .int .i64 z] 159)).alloc (.cells #[.int .i64 0, .int .i64 0] 92)) B (.slice (some ⟨jb, jo, none⟩) js.length cap') jb (jo + j * 3) js[j].kind js[j].name (.slice ea js[j].ends.length ec) j 0 z :=
    ⟨⟨cell_later' hbW hc, cell_later' hbW d0, cell_later' hbW d1, cell_later' hbW d2, by simp [go_sem], by simp [go_sem], by simp [go_sem]⟩, hbW⟩
  have HTS := hide hTS
  have m5 := cell_later' hbW hc5
  have m6 := cell_later' hbW l0
  have r0 : ((w.alloc (.cells #[.int .i64 j, .int .i64 0, .int .i64 z] 159)).alloc (.cells #[.int .i64 0, .int .i64 0] 92)).cell? ⟨w.heap.size + 1, 0, none⟩ = some (.int .i64 0) := by simp [go_sem]
  have r1 : ((w.alloc (.cells #[.int .i64 j, .int .i64 0, .int .i64 z] 159)).alloc (.cells #[.int .i64 0, .int .i64 0] 92)).cell? ⟨w.heap.size + 1, 1, none⟩ = some (.int .i64 0) := by simp [go_sem]
  have g0 : ((w.alloc (.cells #[.int .i64 j, .int .i64 0, .int .i64 z] 159)).alloc (.cells #[.int .i64 0, .int .i64 0] 92)).frozen? ⟨w.heap.size + 1, 0, none⟩ = false := by simp [go_sem]
  have g1 : ((w.alloc (.cells #[.int .i64 j, .int .i64 0, .int .i64 z] 159)).alloc (.cells #[.int .i64 0, .int .i64 0] 92)).frozen? ⟨w.heap.size + 1, 1, none⟩ = false := by simp [go_sem]
  clear hTS hbW d0 d1 d2 hc hc5 l0
  go_enter Tryz.func144, Tryz.ntmps144
  go_upto_region 1 with fail
  generalize ((w.alloc (.cells #[.int .i64 j, .int .i64 0, .int .i64 z] 159)).alloc (.cells #[.int .i64 0, .int .i64 0] 92)) = w0 at *
  obtain ⟨⟨t0, t1, t2, t3, t4, t5, t6⟩, hB0⟩ := HTS.out
  clear HTS
  go_quiet (fail)
  have hq := below_drewN (Below.refl w0.heap.size w0) nq
  generalize w0.drewN nq = w1 at hq ⊢
  have hB1 := hide (hB0.out.trans (hq.mono hB0.out.size))
  have t0 := cell_later' hq t0
  have t1 := cell_later' hq t1
  have t2 := cell_later' hq t2
  have t3 := cell_later' hq t3
  have t4 := cell_later' hq t4
  have t5 := cell_later' hq t5
  have t6 := cell_later' hq t6
  have g0 := frozen_later hq r0 g0
  have g1 := frozen_later hq r1 g1
  have r0 := cell_later' hq r0
  have r1 := cell_later' hq r1
  clear hq m5 m6 hB0
  go_upto_region 5 with fail
  have hw0 : IntKind.i64.wrap 1 = 1 := by decide
  have h11 : Below w1.heap.size w1 w1.drew := (Below.refl _ _).drew
  have HE1 := hide (HE.out.later (hB1.out.trans (h11.mono hB1.out.size)))
  go_region_with (first
      | (go_at_call 89; refine (over_any n js[j] ea ec 0 _ H3.out hi HE1.out).mono ?_; rintro e w2 ⟨v, rfl, hNE, hb2⟩; have hb12 := chn h11 hb2; rw [HL.out] at hNE; obtain ⟨ea2, ec2, rfl, hEA, _⟩ := hNE; obtain ⟨eb, eo, rfl, x0, x1⟩ := hEA 1 hpos; have y0 := cell_later' hb12 r0; have y1 := cell_later' hb12 r1; have z0 := frozen_later hb12 r0 g0; have z1 := frozen_later hb12 r1 g1; have HB2 := hide (hB1.out.trans (hb12.mono hB1.out.size)); clear hEA hb12 hb2 r0 r1 g0 g1 t0 t1 t2 t3 t4 t5 t6; simp only [Nat.one_mul] at x0 x1))
  all_goals
    go_wp2_with fail
    exact bodyPost_ret (v := .tuple #[.agg #[.int .i64 L[1].1, .int .i64 L[1].2], .int .i64 0]) (by simp [results, Tryz.results144, go_sem, y0, y1]) rfl ⟨rfl, (HB2.out.setCell (by show w.heap.size ≤ w.heap.size + 1; omega) _).setCell (by show w.heap.size ≤ w.heap.size + 1; omega) _⟩
end Go.Proofs.YtijdigdcmjdooaaGreat

/- asItLies; what happens at a joint. Own work. -/
namespace Go.Proofs.YtijdigdcmjdooaaGreat
open Go.RowKit
set_option maxHeartbeats 4000000

theorem asItLies_rest (B n : Nat) (a' zb : Option Addr) (cap' zc : Nat) (js : List Jt) (xs : List Int) (j i : Nat) (z : Int) (w : World) (hj : j < js.length) (hxj : j < xs.length) (h3 : jb3 n js[j] = false) (hi : i < js[j].ends.length) (hno : xs[j] = 0 ∨ (¬ xs[j] = 0 ∧ ¬ i = 0)) (hpos : 0 < (acr js[j] i).length) (hc : w.cell? ⟨B, 4, none⟩ = some (.slice a' js.length cap')) (hc5 : w.cell? ⟨B, 5, none⟩ = some (.slice zb xs.length zc)) (hJ : JtsAt w a' js) (hZ : IntsAt w zb xs) :
    Calls Tryz.prog 144 #[.pointer (some ⟨B, 0, none⟩), .agg #[.int .i64 j, .int .i64 i, .int .i64 z]] w fun e w' =>
    ∃ e1 e2 cd : Int, e = .returned (.tuple #[.agg #[.int .i64 e1, .int .i64 e2], .int .i64 cd]) ∧ (cd = if xs[j] = 0 then 2 else if (i : Int) ≠ xs[j] then 3 else 0) ∧ (cd = 0 → (e1, e2) = (acr js[j] i)[0]) ∧ Below w.heap.size w w' := by
  obtain ⟨zk, zo, rfl, l0⟩ := hZ j hxj
  have hzk := cell_lt l0
  have hxi : (j : Int) < (xs.length : Int) := by omega
  have HJ := hide hJ
  have H3 := hide h3
  clear hJ h3 hZ
  have hbW : Below w.heap.size w ((w.alloc (.cells #[.int .i64 j, .int .i64 i, .int .i64 z] 159)).alloc (.cells #[.int .i64 0, .int .i64 0] 92)) := ((Below.refl _ _).alloc (Nat.le_refl _) _).alloc (by simp) _
  have m4 := cell_later' hbW hc
  have m5 := cell_later' hbW hc5
  have m6 := cell_later' hbW l0
  have s0 : ((w.alloc (.cells #[.int .i64 j, .int .i64 i, .int .i64 z] 159)).alloc (.cells #[.int .i64 0, .int .i64 0] 92)).cell? ⟨w.heap.size, 0, none⟩ = some (.int .i64 j) := by simp [go_sem]
  have s1 : ((w.alloc (.cells #[.int .i64 j, .int .i64 i, .int .i64 z] 159)).alloc (.cells #[.int .i64 0, .int .i64 0] 92)).cell? ⟨w.heap.size, 1, none⟩ = some (.int .i64 i) := by simp [go_sem]
  have s2 : ((w.alloc (.cells #[.int .i64 j, .int .i64 i, .int .i64 z] 159)).alloc (.cells #[.int .i64 0, .int .i64 0] 92)).cell? ⟨w.heap.size, 2, none⟩ = some (.int .i64 z) := by simp [go_sem]
  have r0 : ((w.alloc (.cells #[.int .i64 j, .int .i64 i, .int .i64 z] 159)).alloc (.cells #[.int .i64 0, .int .i64 0] 92)).cell? ⟨w.heap.size + 1, 0, none⟩ = some (.int .i64 0) := by simp [go_sem]
  have r1 : ((w.alloc (.cells #[.int .i64 j, .int .i64 i, .int .i64 z] 159)).alloc (.cells #[.int .i64 0, .int .i64 0] 92)).cell? ⟨w.heap.size + 1, 1, none⟩ = some (.int .i64 0) := by simp [go_sem]
  have g0 : ((w.alloc (.cells #[.int .i64 j, .int .i64 i, .int .i64 z] 159)).alloc (.cells #[.int .i64 0, .int .i64 0] 92)).frozen? ⟨w.heap.size + 1, 0, none⟩ = false := by simp [go_sem]
  have g1 : ((w.alloc (.cells #[.int .i64 j, .int .i64 i, .int .i64 z] 159)).alloc (.cells #[.int .i64 0, .int .i64 0] 92)).frozen? ⟨w.heap.size + 1, 1, none⟩ = false := by simp [go_sem]
  clear hc hc5 l0
  generalize hxv : xs[j] = x at *
  clear hxv
  go_enter Tryz.func144, Tryz.ntmps144
  go_upto_region 1 with fail
  generalize ((w.alloc (.cells #[.int .i64 j, .int .i64 i, .int .i64 z] 159)).alloc (.cells #[.int .i64 0, .int .i64 0] 92)) = w0 at *
  go_quiet (fail)
  have hq := below_drewN (Below.refl w0.heap.size w0) nq
  generalize w0.drewN nq = w1 at hq ⊢
  have hB1 := hbW.trans (hq.mono hbW.size)
  have m4 := cell_later' hq m4
  have s0 := cell_later' hq s0
  have s1 := cell_later' hq s1
  have s2 := cell_later' hq s2
  have g0 := frozen_later hq r0 g0
  have g1 := frozen_later hq r1 g1
  have r0 := cell_later' hq r0
  have r1 := cell_later' hq r1
  clear hq m5 m6 hbW
  rcases hno with rfl | ⟨hx0, hi0⟩
  · go_wp2_with fail
    refine bodyPost_ret (v := .tuple #[.agg #[.int .i64 0, .int .i64 0], .int .i64 2]) (by simp [results, Tryz.results144, go_sem, r0, r1]) rfl ⟨0, 0, 2, rfl, by simp, fun h => by simp at h, ?_⟩
    repeat (first | exact hB1 | refine Below.setCell ?_ (by show w.heap.size ≤ w.heap.size + 1; omega) _)
  · have q1 : (x == 0) = false := by rw [beq_eq_false_iff_ne]; exact hx0
    have q2 : ((i : Int) == 0) = false := by rw [beq_eq_false_iff_ne]; omega
    have HX0 := hide hx0
    clear hx0 hi0
    by_cases hix : (i : Int) = x
    · have q3 : ((i : Int) != x) = false := by rw [hix]; simp
      have HIX := hide hix
      clear hix
      go_wp2_with fail
      refine (through_any B n a' cap' js j i z (acr js[j] i) w1 hj H3.out hi rfl hpos m4 (HJ.out.later hB1)).mono ?_
      rintro e w2 ⟨rfl, hb2⟩
      have hB2 := hB1.trans (hb2.mono hB1.size)
      have g0 := frozen_later hb2 r0 g0
      have g1 := frozen_later hb2 r1 g1
      have r0 := cell_later' hb2 r0
      have r1 := cell_later' hb2 r1
      generalize hL : (acr js[j] i)[0] = L0
      have HL := hide hL
      clear hL hb2
      go_wp2_with fail
      refine bodyPost_ret (v := .tuple #[.agg #[.int .i64 L0.1, .int .i64 L0.2], .int .i64 0]) (by simp [results, Tryz.results144, go_sem, r0, r1]) rfl ⟨L0.1, L0.2, 0, rfl, by first | rfl | (rw [if_neg HX0.out, if_neg (by rw [HIX.out]; simp)]), fun _ => HL.out.symm, ?_⟩
      repeat (first | exact hB2 | refine Below.setCell ?_ (by show w.heap.size ≤ w.heap.size + 1; omega) _)
    · have q3 : ((i : Int) != x) = true := by rw [bne_iff_ne]; exact hix
      have HIX := hide hix
      clear hix
      go_wp2_with fail
      refine bodyPost_ret (v := .tuple #[.agg #[.int .i64 0, .int .i64 0], .int .i64 3]) (by simp [results, Tryz.results144, go_sem, r0, r1]) rfl ⟨0, 0, 3, rfl, by first | rfl | (rw [if_neg HX0.out, if_pos HIX.out]), fun h => by simp at h, ?_⟩
      repeat (first | exact hB1 | refine Below.setCell ?_ (by show w.heap.size ≤ w.heap.size + 1; omega) _)
end Go.Proofs.YtijdigdcmjdooaaGreat

/- What happens at a joint; enter. Own work. -/
namespace Go.Proofs.YtijdigdcmjdooaaGreat
open Go.RowKit
set_option maxHeartbeats 4000000

theorem acr_pos {n : Nat} {j : Jt} {i : Nat} (h3 : jb3 n j = false) (hk : ¬ j.kind = 1) (_hi : i < j.ends.length) : 0 < (acr j i).length := by
  obtain ⟨hk', hl⟩ := jb3_len h3
  have hkk : j.kind = 2 ∨ j.kind = 3 ∨ j.kind = 4 := by omega
  rcases hkk with h | h | h
  · have hlen : 1 - i < j.ends.length := by omega
    simp [acr, h, hlen]
  · by_cases h0 : i = 0
    · have h1 : 1 < j.ends.length := by omega
      simp [acr, h, h0, h1]
    · have h1 : 0 < j.ends.length := by omega
      simp [acr, h, h0, h1]
  · have h1 : (if i = 0 then 1 else if i = 1 then 0 else if i = 2 then 3 else 2) < j.ends.length := by split <;> (try split) <;> (try split) <;> omega
    simp [acr, h, h1]

theorem acr_tip {n : Nat} {j : Jt} (h3 : jb3 n j = false) (hk : j.kind = 3) : ∃ e f, acr j 0 = [e, f] ∧ j.ends[1]? = some e ∧ j.ends[2]? = some f := by
  obtain ⟨hk', hl⟩ := jb3_len h3
  have h1 : 1 < j.ends.length := by omega
  have h2 : 2 < j.ends.length := by omega
  exact ⟨j.ends[1], j.ends[2], by simp [acr, hk, h1, h2], by simp [h1], by simp [h2]⟩

/-- What is told of a way over a joint. -/
def PassQ (j : Jt) (h : Int × Int) (i : Nat) (x : Int) (e : Ending) (w w' : World) : Prop :=
  ∃ e1 e2 : Int, e = .returned (.tuple #[.agg #[.int .i64 e1, .int .i64 e2], .int .i64 (overP j h i x).2]) ∧ ((overP j h i x).2 = 0 → (overP j h i x).1 = (e1, e2)) ∧ Below w.heap.size w w'

theorem halt_pass {j : Jt} (hk : j.kind = 1) (h : Int × Int) (i : Nat) (x : Int) (p : Value) (a b c : Int) (w : World) :
    Calls Tryz.prog 143 #[p, .agg #[.int .i64 a, .int .i64 b, .int .i64 c]] w fun e w' => PassQ j h i x e w w' :=
  (halt_any p a b c w).mono fun e w' h' => by
    have ho : overP j h i x = (h, 1) := by simp [overP, hk]
    exact ⟨0, 0, by rw [h'.1, ho], fun h0 => by rw [ho] at h0; simp at h0, h'.2⟩

theorem through_pass (B n : Nat) (a' : Option Addr) (cap' : Nat) (js : List Jt) (j i : Nat) (z : Int) (w : World) (h : Int × Int) (x : Int) (hj : j < js.length) (h3 : jb3 n js[j] = false) (hi : i < js[j].ends.length) (hk1 : ¬ js[j].kind = 1) (hk3 : ¬ js[j].kind = 3) (hc : w.cell? ⟨B, 4, none⟩ = some (.slice a' js.length cap')) (hJ : JtsAt w a' js) :
    Calls Tryz.prog 145 #[.pointer (some ⟨B, 0, none⟩), .agg #[.int .i64 j, .int .i64 i, .int .i64 z]] w fun e w' => PassQ js[j] h i x e w w' := by
  have hp := acr_pos h3 hk1 hi
  refine (through_any B n a' cap' js j i z _ w hj h3 hi rfl hp hc hJ).mono fun e w' h' => ?_
  have ho : overP js[j] h i x = ((acr js[j] i)[0], 0) := by simp [overP, hk1, hk3, hp]
  exact ⟨(acr js[j] i)[0].1, (acr js[j] i)[0].2, by rw [h'.1, ho], fun _ => by rw [ho], h'.2⟩

theorem lies_pass (B n : Nat) (a' zb : Option Addr) (cap' zc : Nat) (js : List Jt) (xs : List Int) (j i : Nat) (z : Int) (w : World) (h : Int × Int) (hj : j < js.length) (hxj : j < xs.length) (hx02 : 0 ≤ xs[j] ∧ xs[j] ≤ 2) (h3 : jb3 n js[j] = false) (hi : i < js[j].ends.length) (hk3 : js[j].kind = 3) (hc : w.cell? ⟨B, 4, none⟩ = some (.slice a' js.length cap')) (hc5 : w.cell? ⟨B, 5, none⟩ = some (.slice zb xs.length zc)) (hJ : JtsAt w a' js) (hZ : IntsAt w zb xs) :
    Calls Tryz.prog 144 #[.pointer (some ⟨B, 0, none⟩), .agg #[.int .i64 j, .int .i64 i, .int .i64 z]] w fun e w' => PassQ js[j] h i xs[j] e w w' := by
  have hk1 : ¬ js[j].kind = 1 := by omega
  have hp := acr_pos h3 hk1 hi
  by_cases htip : i = 0 ∧ ¬ xs[j] = 0
  · obtain ⟨rfl, hx0⟩ := htip
    obtain ⟨e, f, hL, he, hf⟩ := acr_tip h3 hk3
    have hx12 : xs[j] = 1 ∨ xs[j] = 2 := by omega
    rcases hx12 with hx | hx
    · refine (asItLies_tip1 B n a' zb cap' zc js xs j z [e, f] w hj hxj hx h3 hi hL (by simp) hc hc5 hJ hZ).mono fun e' w' h' => ?_
      have ho : overP js[j] h 0 xs[j] = (e, 0) := by rw [hx]; simp [overP, hk3, he]
      exact ⟨e.1, e.2, by rw [h'.1, ho]; rfl, fun _ => by rw [ho], h'.2⟩
    · refine (asItLies_tip2 B n a' zb cap' zc js xs j z [e, f] w hj hxj hx h3 hi hL (by simp) hc hc5 hJ hZ).mono fun e' w' h' => ?_
      have ho : overP js[j] h 0 xs[j] = (f, 0) := by rw [hx]; simp [overP, hk3, hf]
      exact ⟨f.1, f.2, by rw [h'.1, ho]; rfl, fun _ => by rw [ho], h'.2⟩
  · refine (asItLies_rest B n a' zb cap' zc js xs j i z w hj hxj h3 hi (by omega) hp hc hc5 hJ hZ).mono fun e w' h' => ?_
    obtain ⟨e1, e2, cd, he, hcd, hz, hb⟩ := h'
    have ho : (overP js[j] h i xs[j]).2 = cd ∧ (cd = 0 → (overP js[j] h i xs[j]).1 = (acr js[j] i)[0]) := by
      subst hcd
      by_cases hx0 : xs[j] = 0
      · simp [overP, hk3, hx0]
      · have hi0 : ¬ i = 0 := fun h => htip ⟨h, hx0⟩
        by_cases hix : (i : Int) = xs[j]
        · rw [if_neg hx0, if_neg (by rw [hix]; simp)]
          rw [← hix] at hx0 ⊢
          simp [overP, hk3, hi0, hp]
        · rw [if_neg hx0, if_pos hix]
          simp [overP, hk3, hx0, hi0, hix]
    exact ⟨e1, e2, by rw [he, ho.1], fun h0 => by rw [ho.1] at h0; rw [ho.2 h0, hz h0], hb⟩
end Go.Proofs.YtijdigdcmjdooaaGreat

/- The cursor in memory. Own work. -/
namespace Go.Proofs.YtijdigdcmjdooaaGreat
open Go.RowKit
set_option maxHeartbeats 2000000

/-- What lay there ahead of the drive (w), and what the cursor leans on (W): it lies in block B, its map of seats is m. -/
structure Env (w W : World) (B m n : Nat) (G : Int × Int → Option (Int × Int × Int)) : Prop where
  below : Below w.heap.size w W
  wB : w.heap.size ≤ B
  Bb : B < W.heap.size
  seat : SE W m n G
  mB : m ≠ B

/-- The cursor in block B, the list u of parts; of what was there in W nothing else has turned. -/
structure CS (W : World) (B m : Nat) (sp sj sl : Value) (w' : World) (q a wy : Int) (ov : Nat) (u : Value) (ps : List (Int × Int × Int)) : Prop where
  c0 : w'.cell? ⟨B, 0, none⟩ = some (.int .i64 q)
  c1 : w'.cell? ⟨B, 1, none⟩ = some (.int .i64 a)
  c2 : w'.cell? ⟨B, 2, none⟩ = some (.int .i64 wy)
  c3 : w'.cell? ⟨B, 3, none⟩ = some sp
  c4 : w'.cell? ⟨B, 4, none⟩ = some sj
  c5 : w'.cell? ⟨B, 5, none⟩ = some sl
  c6 : w'.cell? ⟨B, 6, none⟩ = some (.map (some m))
  c7 : w'.cell? ⟨B, 7, none⟩ = some (.int .i64 ov)
  c8 : w'.cell? ⟨B, 8, none⟩ = some u
  fz : ∀ i, w'.frozen? ⟨B, i, none⟩ = false
  row : w'.ownsRow W.heap.size 214 3 u ps.length (partCells ps)
  os : w'.os = W.os
  tape : w'.tape = W.tape
  output : w'.output = W.output
  bs : W.heap.size ≤ w'.heap.size
  fr : ∀ k, k < W.heap.size → k ≠ B → w'.heap[k]? = W.heap[k]?
  Bb : B < W.heap.size

section
variable {w W : World} {B m n : Nat} {G : Int × Int → Option (Int × Int × Int)} {sp sj sl : Value} {w' : World} {q a wy : Int} {ov : Nat} {u : Value} {ps : List (Int × Int × Int)}

theorem CS.below (h : CS W B m sp sj sl w' q a wy ov u ps) (E : Env w W B m n G) : Below w.heap.size w w' :=
  ⟨h.os.trans E.below.os, h.tape.trans E.below.tape, h.output.trans E.below.output, Nat.le_trans E.below.size h.bs, fun k hk => by
    have := E.wB
    have := E.below.size
    exact (h.fr k (by omega) (by omega)).trans (E.below.block k hk)⟩
theorem CS.seat (h : CS W B m sp sj sl w' q a wy ov u ps) (E : Env w W B m n G) : SE w' m n G := E.seat.of_block (h.fr m E.seat.lt E.mB)

theorem CS.later (h : CS W B m sp sj sl w' q a wy ov u ps) {w2 : World} (hb : Below w'.heap.size w' w2) : CS W B m sp sj sl w2 q a wy ov u ps where
  c0 := cell_later' hb h.c0
  c1 := cell_later' hb h.c1
  c2 := cell_later' hb h.c2
  c3 := cell_later' hb h.c3
  c4 := cell_later' hb h.c4
  c5 := cell_later' hb h.c5
  c6 := cell_later' hb h.c6
  c7 := cell_later' hb h.c7
  c8 := cell_later' hb h.c8
  fz := fun i => by rw [hb.frozen (p := ⟨B, i, none⟩) (cell_lt h.c0)]; exact h.fz i
  row := owns_later' h.row hb
  os := hb.os.trans h.os
  tape := hb.tape.trans h.tape
  output := hb.output.trans h.output
  bs := Nat.le_trans h.bs hb.size
  fr := fun k hk hne => (hb.block k (Nat.lt_of_lt_of_le hk h.bs)).trans (h.fr k hk hne)
  Bb := h.Bb

theorem CS.setAt (h : CS W B m sp sj sl w' q a wy ov u ps) (a' : Int) : CS W B m sp sj sl (w'.setCell ⟨B, 1, none⟩ (.int .i64 a')) q a' wy ov u ps where
  c0 := by simp [go_sem, h.c0]
  c1 := by simp [go_sem, h.c1]
  c2 := by simp [go_sem, h.c2]
  c3 := by simp [go_sem, h.c3]
  c4 := by simp [go_sem, h.c4]
  c5 := by simp [go_sem, h.c5]
  c6 := by simp [go_sem, h.c6]
  c7 := by simp [go_sem, h.c7]
  c8 := by simp [go_sem, h.c8]
  fz := fun i => by rw [World.frozen?_setCell]; exact h.fz i
  row := ownsRow_setCell_below h.row h.Bb _
  os := h.os
  tape := h.tape
  output := h.output
  bs := by simpa using h.bs
  fr := fun k hk hne => (Below.heap_setCell _ _ _ _ hne).trans (h.fr k hk hne)
  Bb := h.Bb

theorem CS.setOv (h : CS W B m sp sj sl w' q a wy ov u ps) (ov' : Nat) : CS W B m sp sj sl (w'.setCell ⟨B, 7, none⟩ (.int .i64 ov')) q a wy ov' u ps where
  c0 := by simp [go_sem, h.c0]
  c1 := by simp [go_sem, h.c1]
  c2 := by simp [go_sem, h.c2]
  c3 := by simp [go_sem, h.c3]
  c4 := by simp [go_sem, h.c4]
  c5 := by simp [go_sem, h.c5]
  c6 := by simp [go_sem, h.c6]
  c7 := by simp [go_sem, h.c7]
  c8 := by simp [go_sem, h.c8]
  fz := fun i => by rw [World.frozen?_setCell]; exact h.fz i
  row := ownsRow_setCell_below h.row h.Bb _
  os := h.os
  tape := h.tape
  output := h.output
  bs := by simpa using h.bs
  fr := fun k hk hne => (Below.heap_setCell _ _ _ _ hne).trans (h.fr k hk hne)
  Bb := h.Bb

theorem CS.setSpot (h : CS W B m sp sj sl w' q a wy ov u ps) (q' a' wy' : Int) : CS W B m sp sj sl (((w'.setCell ⟨B, 0, none⟩ (.int .i64 q')).setCell ⟨B, 1, none⟩ (.int .i64 a')).setCell ⟨B, 2, none⟩ (.int .i64 wy')) q' a' wy' ov u ps where
  c0 := by simp [go_sem, h.c0]
  c1 := by simp [go_sem, h.c1]
  c2 := by simp [go_sem, h.c2]
  c3 := by simp [go_sem, h.c3]
  c4 := by simp [go_sem, h.c4]
  c5 := by simp [go_sem, h.c5]
  c6 := by simp [go_sem, h.c6]
  c7 := by simp [go_sem, h.c7]
  c8 := by simp [go_sem, h.c8]
  fz := fun i => by rw [World.frozen?_setCell, World.frozen?_setCell, World.frozen?_setCell]; exact h.fz i
  row := ownsRow_setCell_below (ownsRow_setCell_below (ownsRow_setCell_below h.row h.Bb _) h.Bb _) h.Bb _
  os := h.os
  tape := h.tape
  output := h.output
  bs := by simpa using h.bs
  fr := fun k hk hne => (Below.heap_setCell _ _ _ _ hne).trans ((Below.heap_setCell _ _ _ _ hne).trans ((Below.heap_setCell _ _ _ _ hne).trans (h.fr k hk hne)))
  Bb := h.Bb

/-- The list of parts has grown. -/
theorem CS.grown (h : CS W B m sp sj sl w' q a wy ov u ps) {w2 : World} {row : Option Nat} (hg : w'.grownBy w2 row) (hrow : ∀ g, row = some g → W.heap.size ≤ g) {u2 : Value} {ps2 : List (Int × Int × Int)} (hr : w2.ownsRow W.heap.size 214 3 u2 ps2.length (partCells ps2)) :
    CS W B m sp sj sl (w2.setCell ⟨B, 8, none⟩ u2) q a wy ov u2 ps2 := by
  have hB := h.Bb
  have hne : ∀ k, k < W.heap.size → some k ≠ row := fun k hk e => by have := hrow k e.symm; omega
  have hl := cell_lt h.c0
  have e : ∀ i v, w'.cell? ⟨B, i, none⟩ = some v → w2.cell? ⟨B, i, none⟩ = some v := fun i v hv => (hg.cell_far ⟨B, i, none⟩ hl (hne B hB)).trans hv
  have e0 := e _ _ h.c0
  have e1 := e _ _ h.c1
  have e2 := e _ _ h.c2
  have e3 := e _ _ h.c3
  have e4 := e _ _ h.c4
  have e5 := e _ _ h.c5
  have e6 := e _ _ h.c6
  have e7 := e _ _ h.c7
  have e8 := e _ _ h.c8
  exact {
    c0 := by simp [go_sem, e0]
    c1 := by simp [go_sem, e1]
    c2 := by simp [go_sem, e2]
    c3 := by simp [go_sem, e3]
    c4 := by simp [go_sem, e4]
    c5 := by simp [go_sem, e5]
    c6 := by simp [go_sem, e6]
    c7 := by simp [go_sem, e7]
    c8 := by simp [go_sem, e8]
    fz := fun i => by rw [World.frozen?_setCell, hg.frozen_far ⟨B, i, none⟩ hl (hne B hB)]; exact h.fz i
    row := ownsRow_setCell_below hr h.Bb _
    os := hg.os.trans h.os
    tape := hg.tape.trans h.tape
    output := hg.output.trans h.output
    bs := by simpa using Nat.le_trans h.bs hg.size
    fr := fun k hk hkB => (Below.heap_setCell _ _ _ _ hkB).trans ((hg.block k (Nat.lt_of_lt_of_le hk h.bs) (hne k hk)).trans (h.fr k hk hkB))
    Bb := h.Bb }
end

/-- What lies outside of block B has stayed. -/
def Frm (B : Nat) (w w' : World) : Prop := ∀ b o v, b ≠ B → w.cell? ⟨b, o, none⟩ = some v → w'.cell? ⟨b, o, none⟩ = some v
theorem Frm.of_below {B : Nat} {w w' : World} (h : Below w.heap.size w w') : Frm B w w' := fun _ _ _ _ hc => cell_later' h hc
theorem Frm.trans {B : Nat} {w w' w2 : World} (h : Frm B w w') (k : Frm B w' w2) : Frm B w w2 := fun b o v hb hc => k b o v hb (h b o v hb hc)
theorem Frm.set (B : Nat) (w : World) (o : Nat) (u : Value) : Frm B w (w.setCell ⟨B, o, none⟩ u) := fun b i v hb hc => by
  rw [World.cell?_setCell_far w ⟨B, o, none⟩ ⟨b, i, none⟩ u (fun h => hb h.symm)]; exact hc
end Go.Proofs.YtijdigdcmjdooaaGreat

/- entry. Own work. -/
namespace Go.Proofs.YtijdigdcmjdooaaGreat
open Go.RowKit
set_option maxHeartbeats 4000000

theorem entry_any (a : Option Addr) (N : Nt) (cap k : Nat) (sd : Int) (w : World) (hk : k < N.pcs.length) (hsd : sd = 0 ∨ sd = 1) (hp : PcsAt w a N.pcs) :
    Calls Tryz.prog 90 #[.slice a N.pcs.length cap, .agg #[.int .i64 k, .int .i64 sd]] w fun e w' =>
    e = .returned (.agg #[.int .i64 (enterP N (k, sd)).1, .int .i64 (enterP N (k, sd)).2.1, .int .i64 (enterP N (k, sd)).2.2]) ∧ Below w.heap.size w w' := by
  obtain ⟨b, off, rfl, c0, c1, c2, c3⟩ := hp k hk
  have hblt := cell_lt c0
  have hblt1 : b < w.heap.size + 1 := by omega
  have hi : (k : Int) < (N.pcs.length : Int) := by omega
  clear hp c0 c2 c3
  rcases hsd with rfl | rfl
  · go_enter Tryz.func90, Tryz.ntmps90
    go_wp2
    exact bodyPost_ret (v := .agg #[.int .i64 k, .int .i64 0, .int .i64 1]) (by simp [results, Tryz.results90, go_sem]) rfl ⟨rfl, ((Below.refl _ _).alloc (Nat.le_refl _) _).alloc (by simp) _⟩
  · have H := hide (show enterP N (k, 1) = ((k : Int), N.pcs[k].len, -1) by simp [enterP, lenAt_nat N k hk])
    go_enter Tryz.func90, Tryz.ntmps90
    go_wp2_with fail
    go_region
    all_goals
      go_wp2_with fail
      refine bodyPost_ret (v := .agg #[.int .i64 k, .int .i64 N.pcs[k].len, .int .i64 (-1)]) (by simp [results, Tryz.results90, go_sem]) rfl ⟨by rw [H.out], ?_⟩
      exact (((Below.refl _ _).alloc (Nat.le_refl _) _).alloc (by simp) _).drew
end Go.Proofs.YtijdigdcmjdooaaGreat
