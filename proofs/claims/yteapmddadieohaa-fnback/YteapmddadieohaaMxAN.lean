/- asItLies; what happens at a joint. Own work. -/
import Derived.Test.YteapmddadieohaaMxAM
namespace Go.Proofs.Yteapmddadieohaa
open Go.RowKit
set_option maxHeartbeats 4000000

theorem asItLies_rest (B n : Nat) (a' zb : Option Addr) (cap' zc : Nat) (js : List Jt) (xs : List Int) (j i : Nat) (z : Int) (w : World) (hj : j < js.length) (hxj : j < xs.length) (h3 : jb3 n js[j] = false) (hi : i < js[j].ends.length) (hno : xs[j] = 0 ∨ (¬ xs[j] = 0 ∧ ¬ i = 0)) (hpos : 0 < (acr js[j] i).length) (hc : w.cell? ⟨B, 4, none⟩ = some (.slice a' js.length cap')) (hc5 : w.cell? ⟨B, 5, none⟩ = some (.slice zb xs.length zc)) (hJ : JtsAt w a' js) (hZ : IntsAt w zb xs) :
    Calls Try.prog 64 #[.pointer (some ⟨B, 0, none⟩), .agg #[.int .i64 j, .int .i64 i, .int .i64 z]] w fun e w' =>
    ∃ e1 e2 cd : Int, e = .returned (.tuple #[.agg #[.int .i64 e1, .int .i64 e2], .int .i64 cd]) ∧ (cd = if xs[j] = 0 then 2 else if (i : Int) ≠ xs[j] then 3 else 0) ∧ (cd = 0 → (e1, e2) = (acr js[j] i)[0]) ∧ Below w.heap.size w w' := by
  obtain ⟨zk, zo, rfl, l0⟩ := hZ j hxj
  have hzk := cell_lt l0
  have hxi : (j : Int) < (xs.length : Int) := by omega
  have HJ := hide hJ
  have H3 := hide h3
  clear hJ h3 hZ
  have hbW : Below w.heap.size w ((w.alloc (.cells #[.int .i64 j, .int .i64 i, .int .i64 z] 85)).alloc (.cells #[.int .i64 0, .int .i64 0] 59)) := ((Below.refl _ _).alloc (Nat.le_refl _) _).alloc (by simp) _
  have m4 := cell_later' hbW hc
  have m5 := cell_later' hbW hc5
  have m6 := cell_later' hbW l0
  have s0 : ((w.alloc (.cells #[.int .i64 j, .int .i64 i, .int .i64 z] 85)).alloc (.cells #[.int .i64 0, .int .i64 0] 59)).cell? ⟨w.heap.size, 0, none⟩ = some (.int .i64 j) := by simp [go_sem]
  have s1 : ((w.alloc (.cells #[.int .i64 j, .int .i64 i, .int .i64 z] 85)).alloc (.cells #[.int .i64 0, .int .i64 0] 59)).cell? ⟨w.heap.size, 1, none⟩ = some (.int .i64 i) := by simp [go_sem]
  have s2 : ((w.alloc (.cells #[.int .i64 j, .int .i64 i, .int .i64 z] 85)).alloc (.cells #[.int .i64 0, .int .i64 0] 59)).cell? ⟨w.heap.size, 2, none⟩ = some (.int .i64 z) := by simp [go_sem]
  have r0 : ((w.alloc (.cells #[.int .i64 j, .int .i64 i, .int .i64 z] 85)).alloc (.cells #[.int .i64 0, .int .i64 0] 59)).cell? ⟨w.heap.size + 1, 0, none⟩ = some (.int .i64 0) := by simp [go_sem]
  have r1 : ((w.alloc (.cells #[.int .i64 j, .int .i64 i, .int .i64 z] 85)).alloc (.cells #[.int .i64 0, .int .i64 0] 59)).cell? ⟨w.heap.size + 1, 1, none⟩ = some (.int .i64 0) := by simp [go_sem]
  have g0 : ((w.alloc (.cells #[.int .i64 j, .int .i64 i, .int .i64 z] 85)).alloc (.cells #[.int .i64 0, .int .i64 0] 59)).frozen? ⟨w.heap.size + 1, 0, none⟩ = false := by simp [go_sem]
  have g1 : ((w.alloc (.cells #[.int .i64 j, .int .i64 i, .int .i64 z] 85)).alloc (.cells #[.int .i64 0, .int .i64 0] 59)).frozen? ⟨w.heap.size + 1, 1, none⟩ = false := by simp [go_sem]
  clear hc hc5 l0
  generalize hxv : xs[j] = x at *
  clear hxv
  go_enter Try.func64, Try.ntmps64
  go_upto_region 1 with fail
  generalize ((w.alloc (.cells #[.int .i64 j, .int .i64 i, .int .i64 z] 85)).alloc (.cells #[.int .i64 0, .int .i64 0] 59)) = w0 at *
  go_quiet (fail)
  have hq := below_drewN (Below.refl w0.heap.size w0) nq
  generalize w0.drewN nq = w1 at hq ⊢
  have hB1 := hbW.trans (hq.mono hbW.size)
  have m4 := cell_later' hq m4
  have s0 := cell_later' hq s0
  have s1 := cell_later' hq s1
  have s2 := cell_later' hq s2
  have g0 := frozen_later hq r0 g0
  have g1 := frozen_later hq r1 g1
  have r0 := cell_later' hq r0
  have r1 := cell_later' hq r1
  clear hq m5 m6 hbW
  rcases hno with rfl | ⟨hx0, hi0⟩
  · go_wp2_with fail
    refine bodyPost_ret (v := .tuple #[.agg #[.int .i64 0, .int .i64 0], .int .i64 2]) (by simp [results, Try.results64, go_sem, r0, r1]) rfl ⟨0, 0, 2, rfl, by simp, fun h => by simp at h, ?_⟩
    repeat (first | exact hB1 | refine Below.setCell ?_ (by show w.heap.size ≤ w.heap.size + 1; omega) _)
  · have q1 : (x == 0) = false := by rw [beq_eq_false_iff_ne]; exact hx0
    have q2 : ((i : Int) == 0) = false := by rw [beq_eq_false_iff_ne]; omega
    have HX0 := hide hx0
    clear hx0 hi0
    by_cases hix : (i : Int) = x
    · have q3 : ((i : Int) != x) = false := by rw [hix]; simp
      have HIX := hide hix
      clear hix
      go_wp2_with fail
      refine (through_any B n a' cap' js j i z (acr js[j] i) w1 hj H3.out hi rfl hpos m4 (HJ.out.later hB1)).mono ?_
      rintro e w2 ⟨rfl, hb2⟩
      have hB2 := hB1.trans (hb2.mono hB1.size)
      have g0 := frozen_later hb2 r0 g0
      have g1 := frozen_later hb2 r1 g1
      have r0 := cell_later' hb2 r0
      have r1 := cell_later' hb2 r1
      generalize hL : (acr js[j] i)[0] = L0
      have HL := hide hL
      clear hL hb2
      go_wp2_with fail
      refine bodyPost_ret (v := .tuple #[.agg #[.int .i64 L0.1, .int .i64 L0.2], .int .i64 0]) (by simp [results, Try.results64, go_sem, r0, r1]) rfl ⟨L0.1, L0.2, 0, rfl, by first | rfl | (rw [if_neg HX0.out, if_neg (by rw [HIX.out]; simp)]), fun _ => HL.out.symm, ?_⟩
      repeat (first | exact hB2 | refine Below.setCell ?_ (by show w.heap.size ≤ w.heap.size + 1; omega) _)
    · have q3 : ((i : Int) != x) = true := by rw [bne_iff_ne]; exact hix
      have HIX := hide hix
      clear hix
      go_wp2_with fail
      refine bodyPost_ret (v := .tuple #[.agg #[.int .i64 0, .int .i64 0], .int .i64 3]) (by simp [results, Try.results64, go_sem, r0, r1]) rfl ⟨0, 0, 3, rfl, by first | rfl | (rw [if_neg HX0.out, if_pos HIX.out]), fun h => by simp at h, ?_⟩
      repeat (first | exact hB1 | refine Below.setCell ?_ (by show w.heap.size ≤ w.heap.size + 1; omega) _)
end Go.Proofs.Yteapmddadieohaa

/- What happens at a joint; enter. Own work. -/
namespace Go.Proofs.Yteapmddadieohaa
open Go.RowKit
set_option maxHeartbeats 4000000

theorem acr_pos {n : Nat} {j : Jt} {i : Nat} (h3 : jb3 n j = false) (hk : ¬ j.kind = 1) (_hi : i < j.ends.length) : 0 < (acr j i).length := by
  obtain ⟨hk', hl⟩ := jb3_len h3
  have hkk : j.kind = 2 ∨ j.kind = 3 ∨ j.kind = 4 := by omega
  rcases hkk with h | h | h
  · have hlen : 1 - i < j.ends.length := by omega
    simp [acr, h, hlen]
  · by_cases h0 : i = 0
    · have h1 : 1 < j.ends.length := by omega
      simp [acr, h, h0, h1]
    · have h1 : 0 < j.ends.length := by omega
      simp [acr, h, h0, h1]
  · have h1 : (if i = 0 then 1 else if i = 1 then 0 else if i = 2 then 3 else 2) < j.ends.length := by split <;> (try split) <;> (try split) <;> omega
    simp [acr, h, h1]

theorem acr_tip {n : Nat} {j : Jt} (h3 : jb3 n j = false) (hk : j.kind = 3) : ∃ e f, acr j 0 = [e, f] ∧ j.ends[1]? = some e ∧ j.ends[2]? = some f := by
  obtain ⟨hk', hl⟩ := jb3_len h3
  have h1 : 1 < j.ends.length := by omega
  have h2 : 2 < j.ends.length := by omega
  exact ⟨j.ends[1], j.ends[2], by simp [acr, hk, h1, h2], by simp [h1], by simp [h2]⟩

/-- What is told of a way over a joint. -/
def PassQ (j : Jt) (h : Int × Int) (i : Nat) (x : Int) (e : Ending) (w w' : World) : Prop :=
  ∃ e1 e2 : Int, e = .returned (.tuple #[.agg #[.int .i64 e1, .int .i64 e2], .int .i64 (overP j h i x).2]) ∧ ((overP j h i x).2 = 0 → (overP j h i x).1 = (e1, e2)) ∧ Below w.heap.size w w'

theorem halt_pass {j : Jt} (hk : j.kind = 1) (h : Int × Int) (i : Nat) (x : Int) (p : Value) (a b c : Int) (w : World) :
    Calls Try.prog 63 #[p, .agg #[.int .i64 a, .int .i64 b, .int .i64 c]] w fun e w' => PassQ j h i x e w w' :=
  (halt_any p a b c w).mono fun e w' h' => by
    have ho : overP j h i x = (h, 1) := by simp [overP, hk]
    exact ⟨0, 0, by rw [h'.1, ho], fun h0 => by rw [ho] at h0; simp at h0, h'.2⟩

theorem through_pass (B n : Nat) (a' : Option Addr) (cap' : Nat) (js : List Jt) (j i : Nat) (z : Int) (w : World) (h : Int × Int) (x : Int) (hj : j < js.length) (h3 : jb3 n js[j] = false) (hi : i < js[j].ends.length) (hk1 : ¬ js[j].kind = 1) (hk3 : ¬ js[j].kind = 3) (hc : w.cell? ⟨B, 4, none⟩ = some (.slice a' js.length cap')) (hJ : JtsAt w a' js) :
    Calls Try.prog 65 #[.pointer (some ⟨B, 0, none⟩), .agg #[.int .i64 j, .int .i64 i, .int .i64 z]] w fun e w' => PassQ js[j] h i x e w w' := by
  have hp := acr_pos h3 hk1 hi
  refine (through_any B n a' cap' js j i z _ w hj h3 hi rfl hp hc hJ).mono fun e w' h' => ?_
  have ho : overP js[j] h i x = ((acr js[j] i)[0], 0) := by simp [overP, hk1, hk3, hp]
  exact ⟨(acr js[j] i)[0].1, (acr js[j] i)[0].2, by rw [h'.1, ho], fun _ => by rw [ho], h'.2⟩

theorem lies_pass (B n : Nat) (a' zb : Option Addr) (cap' zc : Nat) (js : List Jt) (xs : List Int) (j i : Nat) (z : Int) (w : World) (h : Int × Int) (hj : j < js.length) (hxj : j < xs.length) (hx02 : 0 ≤ xs[j] ∧ xs[j] ≤ 2) (h3 : jb3 n js[j] = false) (hi : i < js[j].ends.length) (hk3 : js[j].kind = 3) (hc : w.cell? ⟨B, 4, none⟩ = some (.slice a' js.length cap')) (hc5 : w.cell? ⟨B, 5, none⟩ = some (.slice zb xs.length zc)) (hJ : JtsAt w a' js) (hZ : IntsAt w zb xs) :
    Calls Try.prog 64 #[.pointer (some ⟨B, 0, none⟩), .agg #[.int .i64 j, .int .i64 i, .int .i64 z]] w fun e w' => PassQ js[j] h i xs[j] e w w' := by
  have hk1 : ¬ js[j].kind = 1 := by omega
  have hp := acr_pos h3 hk1 hi
  by_cases htip : i = 0 ∧ ¬ xs[j] = 0
  · obtain ⟨rfl, hx0⟩ := htip
    obtain ⟨e, f, hL, he, hf⟩ := acr_tip h3 hk3
    have hx12 : xs[j] = 1 ∨ xs[j] = 2 := by omega
    rcases hx12 with hx | hx
    · refine (asItLies_tip1 B n a' zb cap' zc js xs j z [e, f] w hj hxj hx h3 hi hL (by simp) hc hc5 hJ hZ).mono fun e' w' h' => ?_
      have ho : overP js[j] h 0 xs[j] = (e, 0) := by rw [hx]; simp [overP, hk3, he]
      exact ⟨e.1, e.2, by rw [h'.1, ho]; rfl, fun _ => by rw [ho], h'.2⟩
    · refine (asItLies_tip2 B n a' zb cap' zc js xs j z [e, f] w hj hxj hx h3 hi hL (by simp) hc hc5 hJ hZ).mono fun e' w' h' => ?_
      have ho : overP js[j] h 0 xs[j] = (f, 0) := by rw [hx]; simp [overP, hk3, hf]
      exact ⟨f.1, f.2, by rw [h'.1, ho]; rfl, fun _ => by rw [ho], h'.2⟩
  · refine (asItLies_rest B n a' zb cap' zc js xs j i z w hj hxj h3 hi (by omega) hp hc hc5 hJ hZ).mono fun e w' h' => ?_
    obtain ⟨e1, e2, cd, he, hcd, hz, hb⟩ := h'
    have ho : (overP js[j] h i xs[j]).2 = cd ∧ (cd = 0 → (overP js[j] h i xs[j]).1 = (acr js[j] i)[0]) := by
      subst hcd
      by_cases hx0 : xs[j] = 0
      · simp [overP, hk3, hx0]
      · have hi0 : ¬ i = 0 := fun h => htip ⟨h, hx0⟩
        by_cases hix : (i : Int) = xs[j]
        · rw [if_neg hx0, if_neg (by rw [hix]; simp)]
          rw [← hix] at hx0 ⊢
          simp [overP, hk3, hi0, hp]
        · rw [if_neg hx0, if_pos hix]
          simp [overP, hk3, hx0, hi0, hix]
    exact ⟨e1, e2, by rw [he, ho.1], fun h0 => by rw [ho.1] at h0; rw [ho.2 h0, hz h0], hb⟩
end Go.Proofs.Yteapmddadieohaa
