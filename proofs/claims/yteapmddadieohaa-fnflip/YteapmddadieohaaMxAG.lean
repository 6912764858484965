import Derived.Test.YteapmddadieohaaAcA
import Derived.Test.YteapmddadieohaaMxAF
namespace Go.Proofs.Yteapmddadieohaa
open Go.RowKit
set_option maxHeartbeats 1000000

theorem jb3_len {n : Nat} {j : Jt} (h : jb3 n j = false) : (1 ≤ j.kind ∧ j.kind ≤ 4) ∧ (j.ends.length : Int) = j.kind := by
  refine ⟨jb3_kind h, ?_⟩
  simp only [jb3, Bool.or_eq_false_iff] at h
  simpa using h.1.2

theorem l1across_any (n : Nat) (j : Jt) (a : Option Addr) (cap i : Nat) (w : World) (h3 : jb3 n j = false) (hi : i < j.ends.length) (h : EndsAt w a j.ends) :
    Calls Try.prog 46 #[.agg #[.int .i64 j.kind, .string j.name, .slice a j.ends.length cap], .int .i64 i] w fun e w' =>
    ∃ v, e = .returned v ∧ NewEnds w.heap.size w' v (acr j i) ∧ Below w.heap.size w w' := by
  obtain ⟨hk, hl⟩ := jb3_len h3
  clear h3
  obtain ⟨kind, name, ends⟩ := j
  simp only at hk hl hi h
  have hkk : kind = 1 ∨ kind = 2 ∨ kind = 3 ∨ kind = 4 := by omega
  rcases hkk with rfl | rfl | rfl | rfl
  · match ends, (show ends.length = 1 by omega) with
    | [e0], _ =>
      have hii : i = 0 := by simp at hi; omega
      subst hii
      exact l1across_1_0 name a cap e0 w h
  · match ends, (show ends.length = 2 by omega) with
    | [e0, e1], _ =>
      have hii : i = 0 ∨ i = 1 := by simp at hi; omega
      rcases hii with rfl | rfl
      · exact l1across_2_0 name a cap e0 e1 w h
      · exact l1across_2_1 name a cap e0 e1 w h
  · match ends, (show ends.length = 3 by omega) with
    | [e0, e1, e2], _ =>
      have hii : i = 0 ∨ i = 1 ∨ i = 2 := by simp at hi; omega
      rcases hii with rfl | rfl | rfl
      · exact l1across_3_0 name a cap e0 e1 e2 w h
      · exact l1across_3_1 name a cap e0 e1 e2 w h
      · exact l1across_3_2 name a cap e0 e1 e2 w h
  · match ends, (show ends.length = 4 by omega) with
    | [e0, e1, e2, e3], _ =>
      have hii : i = 0 ∨ i = 1 ∨ i = 2 ∨ i = 3 := by simp at hi; omega
      rcases hii with rfl | rfl | rfl | rfl
      · exact l1across_4_0 name a cap e0 e1 e2 e3 w h
      · exact l1across_4_1 name a cap e0 e1 e2 e3 w h
      · exact l1across_4_2 name a cap e0 e1 e2 e3 w h
      · exact l1across_4_3 name a cap e0 e1 e2 e3 w h
end Go.Proofs.Yteapmddadieohaa

namespace Go.Proofs.Yteapmddadieohaa
open Go.RowKit
set_option maxHeartbeats 2000000

/-- Over the joint j from the place i of it, with switches as xs: the end, the code. -/
def overP (j : Jt) (e : Int × Int) (i : Nat) (x : Int) : (Int × Int) × Int :=
  if j.kind = 1 then (e, 1)
  else if j.kind = 3 ∧ x = 0 then (e, 2)
  else if j.kind = 3 ∧ i = 0 then ((j.ends[x.toNat]?).getD (0, 0), 0)
  else if j.kind = 3 ∧ (i : Int) ≠ x then (e, 3)
  else (((acr j i)[0]?).getD (0, 0), 0)

theorem l3over_any (a a' z : Option Addr) (N : Nt) (cap cap' zc : Nat) (xs : List Int) (p s : Int) (w : World) (hl : N.jts.length ≤ 1048576) (hm : ∀ j ∈ N.jts, j.ends.length ≤ 1048576) (hright : netOk N = (0, 0)) (hok : endOk N.pcs.length (p, s) = true) (hlies : liesP N.jts xs = true) (hj : JtsAt w a' N.jts) (hz : IntsAt w z xs) :
    Calls Try.prog 37 #[.agg #[.slice a N.pcs.length cap, .slice a' N.jts.length cap'], .slice z xs.length zc, .agg #[.int .i64 p, .int .i64 s]] w fun e w' =>
    ∃ (j i : Nat) (hj : j < N.jts.length) (hx : j < xs.length), At N.jts (p, s) j i ∧ e = .returned (.tuple #[.agg #[.int .i64 (overP N.jts[j] (p, s) i xs[j]).1.1, .int .i64 (overP N.jts[j] (p, s) i xs[j]).1.2], .int .i64 (overP N.jts[j] (p, s) i xs[j]).2, .int .i64 j]) ∧ Below w.heap.size w w' := by
  have HJ := hide hj
  have HZ := hide hz
  have HM := hide hm
  have HRT := hide hright
  have HLI := hide hlies
  have HEX := hide (at_of_uses (js := N.jts) (e := (p, s)) (by rw [uses_right hright hok]; omega))
  clear hj hz hm hright hlies hok
  go_enter Try.func37, Try.ntmps37
  go_wp2_with fail
  have hbW : Below w.heap.size w (((w.alloc (.cells #[.slice a N.pcs.length cap, .slice a' N.jts.length cap'] 26)).alloc (.cells #[.int .i64 p, .int .i64 s] 59)).alloc (.cells #[.int .i64 0, .int .i64 0] 59)) := (((Below.refl _ _).alloc (Nat.le_refl _) _).alloc (by simp) _).alloc (by simp; omega) _
  refine (l1at_any _ _ _ _ _ N.jts p s _ hl HM.out (HJ.out.later hbW)).mono ?_
  rintro e w1 ⟨x, y, rfl, hxy, hb1⟩
  have hb2 := hbW.trans (hb1.mono hbW.size)
  obtain ⟨hc, hf⟩ := bcell hb1
  have n1 : w1.cell? ⟨w.heap.size, 1, none⟩ = some (.slice a' N.jts.length cap') := by rw [hc _ _ (by simp; omega)]; simp [go_sem]
  have e0 : w1.cell? ⟨w.heap.size + 1, 0, none⟩ = some (.int .i64 p) := by rw [hc _ _ (by simp)]; simp [go_sem]
  have e1 : w1.cell? ⟨w.heap.size + 1, 1, none⟩ = some (.int .i64 s) := by rw [hc _ _ (by simp)]; simp [go_sem]
  have r0 : w1.cell? ⟨w.heap.size + 1 + 1, 0, none⟩ = some (.int .i64 0) := by rw [hc _ _ (by simp)]; simp [go_sem]
  have r1 : w1.cell? ⟨w.heap.size + 1 + 1, 1, none⟩ = some (.int .i64 0) := by rw [hc _ _ (by simp)]; simp [go_sem]
  have f0 : w1.frozen? ⟨w.heap.size + 1 + 1, 0, none⟩ = false := by rw [hf _ _ (by simp)]; simp [go_sem]
  have f1 : w1.frozen? ⟨w.heap.size + 1 + 1, 1, none⟩ = false := by rw [hf _ _ (by simp)]; simp [go_sem]
  clear hc hf hb1
  have hxy' : ∃ j i : Nat, x = j ∧ y = i ∧ At N.jts (p, s) j i := by
    rcases hxy with h | hno
    · exact h
    · obtain ⟨j, i, hat⟩ := HEX.out
      exact absurd hat (hno j i)
  obtain ⟨j, i, rfl, rfl, hat⟩ := hxy'
  have HAT := hide hat
  obtain ⟨hjl, hil, hel⟩ := hat
  clear hel hxy HEX
  have hxl : j < xs.length := by
    have := HLI.out
    simp [liesP] at this
    omega
  obtain ⟨b, off, ea, ec, rfl, c0, c1, c2, ce⟩ := (JtsAt.later HJ.out hb2) j hjl
  obtain ⟨zb, zo, rfl, z0⟩ := (IntsAt.later HZ.out hb2) j hxl
  have hzr := cell_lt r0
  have hblt := cell_lt c0
  have hzlt := cell_lt z0
  have hzn := cell_lt n1
  have hze := cell_lt e0
  have CE := hide ce
  have hB3 : jb3 N.pcs.length N.jts[j] = false := by rw [← jtBad3_jb3 hjl]; exact (right_facts HRT.out).2.2.1 j hjl
  have hkd := jb3_len hB3
  have HB3 := hide hB3
  obtain ⟨⟨hk1, hk4⟩, hkl⟩ := hkd
  have HKL := hide hkl
  clear ce hB3 hkl
  by_cases hkind : N.jts[j].kind = 1
  · have q1 : (N.jts[j].kind == 1) = true := by rw [beq_iff_eq]; exact hkind
    have HO := hide (show overP N.jts[j] (p, s) i xs[j] = ((p, s), 1) by simp [overP, hkind])
    clear hkind
    go_wp2_with fail
    exact bodyPost_ret (v := .tuple #[.agg #[.int .i64 p, .int .i64 s], .int .i64 1, .int .i64 j]) (by simp [results, Try.results37, go_sem, r0, r1, hzr]) rfl ⟨j, i, hjl, hxl, HAT.out, by rw [HO.out], by repeat (first | exact hb2 | refine Below.setCell ?_ (by simp; omega) _ | refine Below.alloc ?_ (by simpa using hb2.size) _)⟩
  · have q1 : (N.jts[j].kind == 1) = false := by rw [beq_eq_false_iff_ne]; exact hkind
    by_cases hkind3 : N.jts[j].kind = 3
    · have q3 : (N.jts[j].kind == 3) = true := by rw [beq_iff_eq]; exact hkind3
      have hlen3 : N.jts[j].ends.length = 3 := by have := HKL.out; omega
      have hx02 : 0 ≤ xs[j] ∧ xs[j] ≤ 2 := by
        have h := HLI.out
        cases hbad : lieOk N.jts[j] xs[j]
        · rw [liesP_bad hjl hxl hbad] at h; simp at h
        · simp only [lieOk, inR, Bool.and_eq_true, decide_eq_true_eq] at hbad; omega
      by_cases hx0 : xs[j] = 0
      · have qx : (xs[j] == 0) = true := by rw [beq_iff_eq]; exact hx0
        have HO := hide (show overP N.jts[j] (p, s) i xs[j] = ((p, s), 2) by simp [overP, hkind3, hx0])
        clear hx0 hkind hkind3 hlen3
        go_wp2_with fail
        exact bodyPost_ret (v := .tuple #[.agg #[.int .i64 p, .int .i64 s], .int .i64 2, .int .i64 j]) (by simp [results, Try.results37, go_sem, r0, r1, hzr]) rfl ⟨j, i, hjl, hxl, HAT.out, by rw [HO.out], by repeat (first | exact hb2 | refine Below.setCell ?_ (by simp; omega) _ | refine Below.alloc ?_ (by simpa using hb2.size) _)⟩
      · have qx : (xs[j] == 0) = false := by rw [beq_eq_false_iff_ne]; exact hx0
        by_cases hi0 : i = 0
        · subst hi0
          obtain ⟨eb, eo, hea, y10, y11⟩ := CE.out 1 (by omega)
          obtain ⟨eb', eo', hea', y20, y21⟩ := CE.out 2 (by omega)
          subst hea
          obtain ⟨rfl, rfl⟩ : eb = eb' ∧ eo = eo' := by simpa using hea'
          have hylt := cell_lt y10
          have y10 : w1.cell? ⟨eb, eo + 2, none⟩ = some (.int .i64 N.jts[j].ends[1].1) := y10
          have y11 : w1.cell? ⟨eb, eo + 2 + 1, none⟩ = some (.int .i64 N.jts[j].ends[1].2) := y11
          have y20 : w1.cell? ⟨eb, eo + 4, none⟩ = some (.int .i64 N.jts[j].ends[2].1) := y20
          have y21 : w1.cell? ⟨eb, eo + 4 + 1, none⟩ = some (.int .i64 N.jts[j].ends[2].2) := y21
          have hl3 : (2 : Int) < (N.jts[j].ends.length : Int) := by omega
          have hx12 : xs[j] = 1 ∨ xs[j] = 2 := by omega
          rcases hx12 with hx1 | hx1
          · have HO := hide (show overP N.jts[j] (p, s) 0 xs[j] = (N.jts[j].ends[1], 0) by simp [overP, hkind3, hx1, hlen3])
            rw [hx1] at z0 qx
            clear hx1 hx0 hkind hkind3 hea' hx02
            go_wp2_with fail
            go_region
            all_goals
              go_wp2_with fail
              refine bodyPost_ret (v := .tuple #[.agg #[.int .i64 N.jts[j].ends[1].1, .int .i64 N.jts[j].ends[1].2], .int .i64 0, .int .i64 j]) (by simp [results, Try.results37, go_sem, r0, r1, hzr]) rfl ⟨j, 0, hjl, hxl, HAT.out, by rw [HO.out], by repeat (first | exact hb2 | refine Below.drew ?_ | refine Below.setCell ?_ (by simp; omega) _ | refine Below.alloc ?_ (by simpa using hb2.size) _)⟩
          · have HO := hide (show overP N.jts[j] (p, s) 0 xs[j] = (N.jts[j].ends[2], 0) by simp [overP, hkind3, hx1, hlen3])
            rw [hx1] at z0 qx
            clear hx1 hx0 hkind hkind3 hea' hx02
            go_wp2_with fail
            go_region
            all_goals
              go_wp2_with fail
              refine bodyPost_ret (v := .tuple #[.agg #[.int .i64 N.jts[j].ends[2].1, .int .i64 N.jts[j].ends[2].2], .int .i64 0, .int .i64 j]) (by simp [results, Try.results37, go_sem, r0, r1, hzr]) rfl ⟨j, 0, hjl, hxl, HAT.out, by rw [HO.out], by repeat (first | exact hb2 | refine Below.drew ?_ | refine Below.setCell ?_ (by simp; omega) _ | refine Below.alloc ?_ (by simpa using hb2.size) _)⟩
        · have qi : ((i : Int) == 0) = false := by rw [beq_eq_false_iff_ne]; omega
          by_cases hix : (i : Int) = xs[j]
          · have qn : ((i : Int) != xs[j]) = false := by rw [hix]; simp
            have HLEN := hide (show 0 < (acr N.jts[j] i).length by simp [acr, hkind3, hi0, hlen3])
            have HO := hide (show overP N.jts[j] (p, s) i xs[j] = ((acr N.jts[j] i)[0]'HLEN.out, 0) by simp [overP, hkind3, hx0, hi0, hix, HLEN.out])
            clear hix hx0 hkind hkind3 hlen3 hi0
            have hA : Below w1.heap.size w1 (w1.alloc (.cells #[.int .i64 N.jts[j].kind, .string N.jts[j].name, .slice ea N.jts[j].ends.length ec] 53)) := (Below.refl _ _).alloc (Nat.le_refl _) _
            go_wp2_with fail
            refine (l1across_any N.pcs.length N.jts[j] ea ec i _ HB3.out hil (CE.out.later hA)).mono ?_
            rintro e w4 ⟨v, rfl, hNE, hb7⟩
            have hb14 := hA.trans (hb7.mono hA.size)
            obtain ⟨va, vc, rfl, hE, _⟩ := hNE
            obtain ⟨vb, vo, hva, y0, y1⟩ := hE 0 HLEN.out
            subst hva
            have hl0 : (0 : Int) < ((acr N.jts[j] i).length : Int) := by have := HLEN.out; omega
            have r0 := cell_later' hb14 r0
            have r1 := cell_later' hb14 r1
            have f0 : w4.frozen? ⟨w.heap.size + 1 + 1, 0, none⟩ = false := by rw [hb14.frozen (p := ⟨w.heap.size + 1 + 1, 0, none⟩) hzr]; exact f0
            have f1 : w4.frozen? ⟨w.heap.size + 1 + 1, 1, none⟩ = false := by rw [hb14.frozen (p := ⟨w.heap.size + 1 + 1, 1, none⟩) hzr]; exact f1
            have hbf := hb2.trans (hb14.mono hb2.size)
            simp only [Nat.zero_mul, Nat.add_zero] at y0 y1
            generalize hg : (acr N.jts[j] i)[0]'HLEN.out = g at y0 y1
            have HG := hide hg
            clear hg hE hb7 hb14 hA
            go_wp2_with fail
            exact bodyPost_ret (v := .tuple #[.agg #[.int .i64 g.1, .int .i64 g.2], .int .i64 0, .int .i64 j]) (by simp [results, Try.results37, go_sem, r0, r1]) rfl ⟨j, i, hjl, hxl, HAT.out, by rw [HO.out, HG.out], (hbf.setCell (by simp; omega) _).setCell (by simp; omega) _⟩

          · have qn : ((i : Int) != xs[j]) = true := by rw [bne_iff_ne]; exact hix
            have HO := hide (show overP N.jts[j] (p, s) i xs[j] = ((p, s), 3) by simp [overP, hkind3, hx0, hi0, hix])
            clear hix hx0 hkind hkind3 hlen3 hi0
            go_wp2_with fail
            exact bodyPost_ret (v := .tuple #[.agg #[.int .i64 p, .int .i64 s], .int .i64 3, .int .i64 j]) (by simp [results, Try.results37, go_sem, r0, r1, hzr]) rfl ⟨j, i, hjl, hxl, HAT.out, by rw [HO.out], by repeat (first | exact hb2 | refine Below.setCell ?_ (by simp; omega) _ | refine Below.alloc ?_ (by simpa using hb2.size) _)⟩
    · have q3 : (N.jts[j].kind == 3) = false := by rw [beq_eq_false_iff_ne]; exact hkind3
      have hk24 : N.jts[j].kind = 2 ∨ N.jts[j].kind = 4 := by omega
      have HLEN : Hid (0 < (acr N.jts[j] i).length) := by
        have hkl := HKL.out
        rcases hk24 with h | h
        · have hl2 : N.jts[j].ends.length = 2 := by omega
          have hlt : 1 - i < N.jts[j].ends.length := by omega
          show 0 < _
          simp [acr, h, hlt]
        · have hl4 : N.jts[j].ends.length = 4 := by omega
          have hlt : (if i = 0 then 1 else if i = 1 then 0 else if i = 2 then 3 else 2) < N.jts[j].ends.length := by split; omega; split; omega; split <;> omega
          show 0 < _
          simp [acr, h, hlt]
      have HO := hide (show overP N.jts[j] (p, s) i xs[j] = ((acr N.jts[j] i)[0]'HLEN.out, 0) by simp [overP, hkind, hkind3, HLEN.out])
      clear hk24 hkind hkind3
      have hA : Below w1.heap.size w1 (w1.alloc (.cells #[.int .i64 N.jts[j].kind, .string N.jts[j].name, .slice ea N.jts[j].ends.length ec] 53)) := (Below.refl _ _).alloc (Nat.le_refl _) _
      go_wp2_with fail
      refine (l1across_any N.pcs.length N.jts[j] ea ec i _ HB3.out hil (CE.out.later hA)).mono ?_
      rintro e w4 ⟨v, rfl, hNE, hb7⟩
      have hb14 := hA.trans (hb7.mono hA.size)
      obtain ⟨va, vc, rfl, hE, _⟩ := hNE
      obtain ⟨vb, vo, hva, y0, y1⟩ := hE 0 HLEN.out
      subst hva
      have hl0 : (0 : Int) < ((acr N.jts[j] i).length : Int) := by have := HLEN.out; omega
      have r0 := cell_later' hb14 r0
      have r1 := cell_later' hb14 r1
      have f0 : w4.frozen? ⟨w.heap.size + 1 + 1, 0, none⟩ = false := by rw [hb14.frozen (p := ⟨w.heap.size + 1 + 1, 0, none⟩) hzr]; exact f0
      have f1 : w4.frozen? ⟨w.heap.size + 1 + 1, 1, none⟩ = false := by rw [hb14.frozen (p := ⟨w.heap.size + 1 + 1, 1, none⟩) hzr]; exact f1
      have hbf := hb2.trans (hb14.mono hb2.size)
      simp only [Nat.zero_mul, Nat.add_zero] at y0 y1
      generalize hg : (acr N.jts[j] i)[0]'HLEN.out = g at y0 y1
      have HG := hide hg
      clear hg hE hb7 hb14 hA
      go_wp2_with fail
      exact bodyPost_ret (v := .tuple #[.agg #[.int .i64 g.1, .int .i64 g.2], .int .i64 0, .int .i64 j]) (by simp [results, Try.results37, go_sem, r0, r1]) rfl ⟨j, i, hjl, hxl, HAT.out, by rw [HO.out, HG.out], (hbf.setCell (by simp; omega) _).setCell (by simp; omega) _⟩
end Go.Proofs.Yteapmddadieohaa
