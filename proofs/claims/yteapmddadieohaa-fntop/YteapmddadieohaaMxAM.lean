/- asItLies from the tip of a switch that lies 1. Own work. -/
import Derived.Test.YteapmddadieohaaMxAL
import Derived.Deep.QuietTactic
import Derived.BigQuiet
namespace Go.Proofs.Yteapmddadieohaa
open Go.RowKit
set_option maxHeartbeats 4000000

theorem asItLies_tip1 (B n : Nat) (a' zb : Option Addr) (cap' zc : Nat) (js : List Jt) (xs : List Int) (j : Nat) (z : Int) (L : List (Int × Int)) (w : World) (hj : j < js.length) (hxj : j < xs.length) (hx : xs[j] = 1) (h3 : jb3 n js[j] = false) (hi : 0 < js[j].ends.length) (hL : acr js[j] 0 = L) (hpos : 0 < L.length) (hc : w.cell? ⟨B, 4, none⟩ = some (.slice a' js.length cap')) (hc5 : w.cell? ⟨B, 5, none⟩ = some (.slice zb xs.length zc)) (hJ : JtsAt w a' js) (hZ : IntsAt w zb xs) :
    Calls Try.prog 64 #[.pointer (some ⟨B, 0, none⟩), .agg #[.int .i64 j, .int .i64 0, .int .i64 z]] w fun e w' => e = .returned (.tuple #[.agg #[.int .i64 L[0].1, .int .i64 L[0].2], .int .i64 0]) ∧ Below w.heap.size w w' := by
  obtain ⟨jb, jo, ea, ec, rfl, d0, d1, d2, dE⟩ := hJ j hj
  obtain ⟨zk, zo, rfl, l0⟩ := hZ j hxj
  rw [hx] at l0
  have hB := cell_lt hc
  have hjb := cell_lt d0
  have hzk := cell_lt l0
  have hji : (j : Int) < (js.length : Int) := by omega
  have hxi : (j : Int) < (xs.length : Int) := by omega
  have hp1 : (0 : Int) < (L.length : Int) := by omega
  have HE := hide dE
  have HL := hide hL
  have H3 := hide h3
  clear hJ dE hL h3 hZ hx
  have hbW : Below w.heap.size w ((w.alloc (.cells #[.int .i64 j, .int .i64 0, .int .i64 z] 85)).alloc (.cells #[.int .i64 0, .int .i64 0] 59)) := ((Below.refl _ _).alloc (Nat.le_refl _) _).alloc (by simp) _
  have hTS : TS w ((w.alloc (.cells #[.int .i64 j, .int .i64 0, .int .i64 z] 85)).alloc (.cells #[.int .i64 0, .int .i64 0] 59)) B (.slice (some ⟨jb, jo, none⟩) js.length cap') jb (jo + j * 3) js[j].kind js[j].name (.slice ea js[j].ends.length ec) j 0 z :=
    ⟨⟨cell_later' hbW hc, cell_later' hbW d0, cell_later' hbW d1, cell_later' hbW d2, by simp [go_sem], by simp [go_sem], by simp [go_sem]⟩, hbW⟩
  have HTS := hide hTS
  have m5 := cell_later' hbW hc5
  have m6 := cell_later' hbW l0
  have r0 : ((w.alloc (.cells #[.int .i64 j, .int .i64 0, .int .i64 z] 85)).alloc (.cells #[.int .i64 0, .int .i64 0] 59)).cell? ⟨w.heap.size + 1, 0, none⟩ = some (.int .i64 0) := by simp [go_sem]
  have r1 : ((w.alloc (.cells #[.int .i64 j, .int .i64 0, .int .i64 z] 85)).alloc (.cells #[.int .i64 0, .int .i64 0] 59)).cell? ⟨w.heap.size + 1, 1, none⟩ = some (.int .i64 0) := by simp [go_sem]
  have g0 : ((w.alloc (.cells #[.int .i64 j, .int .i64 0, .int .i64 z] 85)).alloc (.cells #[.int .i64 0, .int .i64 0] 59)).frozen? ⟨w.heap.size + 1, 0, none⟩ = false := by simp [go_sem]
  have g1 : ((w.alloc (.cells #[.int .i64 j, .int .i64 0, .int .i64 z] 85)).alloc (.cells #[.int .i64 0, .int .i64 0] 59)).frozen? ⟨w.heap.size + 1, 1, none⟩ = false := by simp [go_sem]
  clear hTS hbW d0 d1 d2 hc hc5 l0
  go_enter Try.func64, Try.ntmps64
  go_upto_region 1 with fail
  generalize ((w.alloc (.cells #[.int .i64 j, .int .i64 0, .int .i64 z] 85)).alloc (.cells #[.int .i64 0, .int .i64 0] 59)) = w0 at *
  obtain ⟨⟨t0, t1, t2, t3, t4, t5, t6⟩, hB0⟩ := HTS.out
  clear HTS
  go_quiet (fail)
  have hq := below_drewN (Below.refl w0.heap.size w0) nq
  generalize w0.drewN nq = w1 at hq ⊢
  have hB1 := hide (hB0.out.trans (hq.mono hB0.out.size))
  have t0 := cell_later' hq t0
  have t1 := cell_later' hq t1
  have t2 := cell_later' hq t2
  have t3 := cell_later' hq t3
  have t4 := cell_later' hq t4
  have t5 := cell_later' hq t5
  have t6 := cell_later' hq t6
  have g0 := frozen_later hq r0 g0
  have g1 := frozen_later hq r1 g1
  have r0 := cell_later' hq r0
  have r1 := cell_later' hq r1
  clear hq m5 m6 hB0
  go_upto_region 5 with fail
  have hw0 : IntKind.i64.wrap 0 = 0 := by decide
  have h11 : Below w1.heap.size w1 w1.drew := (Below.refl _ _).drew
  have HE1 := hide (HE.out.later (hB1.out.trans (h11.mono hB1.out.size)))
  go_region_with (first
      | (go_at_call 68; refine (over_any n js[j] ea ec 0 _ H3.out hi HE1.out).mono ?_; rintro e w2 ⟨v, rfl, hNE, hb2⟩; have hb12 := chn h11 hb2; rw [HL.out] at hNE; obtain ⟨ea2, ec2, rfl, hEA, _⟩ := hNE; obtain ⟨eb, eo, rfl, x0, x1⟩ := hEA 0 hpos; have y0 := cell_later' hb12 r0; have y1 := cell_later' hb12 r1; have z0 := frozen_later hb12 r0 g0; have z1 := frozen_later hb12 r1 g1; have HB2 := hide (hB1.out.trans (hb12.mono hB1.out.size)); clear hEA hb12 hb2 r0 r1 g0 g1 t0 t1 t2 t3 t4 t5 t6; simp only [Nat.zero_mul, Nat.add_zero] at x0 x1))
  all_goals
    go_wp2_with fail
    exact bodyPost_ret (v := .tuple #[.agg #[.int .i64 L[0].1, .int .i64 L[0].2], .int .i64 0]) (by simp [results, Try.results64, go_sem, y0, y1]) rfl ⟨rfl, (HB2.out.setCell (by show w.heap.size ≤ w.heap.size + 1; omega) _).setCell (by show w.heap.size ≤ w.heap.size + 1; omega) _⟩
end Go.Proofs.Yteapmddadieohaa

/- asItLies from the tip of a switch that lies 2. Own work. -/
namespace Go.Proofs.Yteapmddadieohaa
open Go.RowKit
set_option maxHeartbeats 4000000

theorem asItLies_tip2 (B n : Nat) (a' zb : Option Addr) (cap' zc : Nat) (js : List Jt) (xs : List Int) (j : Nat) (z : Int) (L : List (Int × Int)) (w : World) (hj : j < js.length) (hxj : j < xs.length) (hx : xs[j] = 2) (h3 : jb3 n js[j] = false) (hi : 0 < js[j].ends.length) (hL : acr js[j] 0 = L) (hpos : 1 < L.length) (hc : w.cell? ⟨B, 4, none⟩ = some (.slice a' js.length cap')) (hc5 : w.cell? ⟨B, 5, none⟩ = some (.slice zb xs.length zc)) (hJ : JtsAt w a' js) (hZ : IntsAt w zb xs) :
    Calls Try.prog 64 #[.pointer (some ⟨B, 0, none⟩), .agg #[.int .i64 j, .int .i64 0, .int .i64 z]] w fun e w' => e = .returned (.tuple #[.agg #[.int .i64 L[1].1, .int .i64 L[1].2], .int .i64 0]) ∧ Below w.heap.size w w' := by
  obtain ⟨jb, jo, ea, ec, rfl, d0, d1, d2, dE⟩ := hJ j hj
  obtain ⟨zk, zo, rfl, l0⟩ := hZ j hxj
  rw [hx] at l0
  have hB := cell_lt hc
  have hjb := cell_lt d0
  have hzk := cell_lt l0
  have hji : (j : Int) < (js.length : Int) := by omega
  have hxi : (j : Int) < (xs.length : Int) := by omega
  have hp1 : (1 : Int) < (L.length : Int) := by omega
  have HE := hide dE
  have HL := hide hL
  have H3 := hide h3
  clear hJ dE hL h3 hZ hx
  have hbW : Below w.heap.size w ((w.alloc (.cells #[.int .i64 j, .int .i64 0, .int .i64 z] 85)).alloc (.cells #[.int .i64 0, .int .i64 0] 59)) := ((Below.refl _ _).alloc (Nat.le_refl _) _).alloc (by simp) _
  have hTS : TS w ((w.alloc (.cells #[.int .i64 j, .int .i64 0, .int .i64 z] 85)).alloc (.cells #[.int .i64 0, .int .i64 0] 59)) B (.slice (some ⟨jb, jo, none⟩) js.length cap') jb (jo + j * 3) js[j].kind js[j].name (.slice ea js[j].ends.length ec) j 0 z :=
    ⟨⟨cell_later' hbW hc, cell_later' hbW d0, cell_later' hbW d1, cell_later' hbW d2, by simp [go_sem], by simp [go_sem], by simp [go_sem]⟩, hbW⟩
  have HTS := hide hTS
  have m5 := cell_later' hbW hc5
  have m6 := cell_later' hbW l0
  have r0 : ((w.alloc (.cells #[.int .i64 j, .int .i64 0, .int .i64 z] 85)).alloc (.cells #[.int .i64 0, .int .i64 0] 59)).cell? ⟨w.heap.size + 1, 0, none⟩ = some (.int .i64 0) := by simp [go_sem]
  have r1 : ((w.alloc (.cells #[.int .i64 j, .int .i64 0, .int .i64 z] 85)).alloc (.cells #[.int .i64 0, .int .i64 0] 59)).cell? ⟨w.heap.size + 1, 1, none⟩ = some (.int .i64 0) := by simp [go_sem]
  have g0 : ((w.alloc (.cells #[.int .i64 j, .int .i64 0, .int .i64 z] 85)).alloc (.cells #[.int .i64 0, .int .i64 0] 59)).frozen? ⟨w.heap.size + 1, 0, none⟩ = false := by simp [go_sem]
  have g1 : ((w.alloc (.cells #[.int .i64 j, .int .i64 0, .int .i64 z] 85)).alloc (.cells #[.int .i64 0, .int .i64 0] 59)).frozen? ⟨w.heap.size + 1, 1, none⟩ = false := by simp [go_sem]
  clear hTS hbW d0 d1 d2 hc hc5 l0
  go_enter Try.func64, Try.ntmps64
  go_upto_region 1 with fail
  generalize ((w.alloc (.cells #[.int .i64 j, .int .i64 0, .int .i64 z] 85)).alloc (.cells #[.int .i64 0, .int .i64 0] 59)) = w0 at *
  obtain ⟨⟨t0, t1, t2, t3, t4, t5, t6⟩, hB0⟩ := HTS.out
  clear HTS
  go_quiet (fail)
  have hq := below_drewN (Below.refl w0.heap.size w0) nq
  generalize w0.drewN nq = w1 at hq ⊢
  have hB1 := hide (hB0.out.trans (hq.mono hB0.out.size))
  have t0 := cell_later' hq t0
  have t1 := cell_later' hq t1
  have t2 := cell_later' hq t2
  have t3 := cell_later' hq t3
  have t4 := cell_later' hq t4
  have t5 := cell_later' hq t5
  have t6 := cell_later' hq t6
  have g0 := frozen_later hq r0 g0
  have g1 := frozen_later hq r1 g1
  have r0 := cell_later' hq r0
  have r1 := cell_later' hq r1
  clear hq m5 m6 hB0
  go_upto_region 5 with fail
  have hw0 : IntKind.i64.wrap 1 = 1 := by decide
  have h11 : Below w1.heap.size w1 w1.drew := (Below.refl _ _).drew
  have HE1 := hide (HE.out.later (hB1.out.trans (h11.mono hB1.out.size)))
  go_region_with (first
      | (go_at_call 68; refine (over_any n js[j] ea ec 0 _ H3.out hi HE1.out).mono ?_; rintro e w2 ⟨v, rfl, hNE, hb2⟩; have hb12 := chn h11 hb2; rw [HL.out] at hNE; obtain ⟨ea2, ec2, rfl, hEA, _⟩ := hNE; obtain ⟨eb, eo, rfl, x0, x1⟩ := hEA 1 hpos; have y0 := cell_later' hb12 r0; have y1 := cell_later' hb12 r1; have z0 := frozen_later hb12 r0 g0; have z1 := frozen_later hb12 r1 g1; have HB2 := hide (hB1.out.trans (hb12.mono hB1.out.size)); clear hEA hb12 hb2 r0 r1 g0 g1 t0 t1 t2 t3 t4 t5 t6; simp only [Nat.one_mul] at x0 x1))
  all_goals
    go_wp2_with fail
    exact bodyPost_ret (v := .tuple #[.agg #[.int .i64 L[1].1, .int .i64 L[1].2], .int .i64 0]) (by simp [results, Try.results64, go_sem, y0, y1]) rfl ⟨rfl, (HB2.out.setCell (by show w.heap.size ≤ w.heap.size + 1; omega) _).setCell (by show w.heap.size ≤ w.heap.size + 1; omega) _⟩
end Go.Proofs.Yteapmddadieohaa
