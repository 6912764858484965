/- impl.Reach. Own work. -/
import Derived.Test.YtijdigdcmjdooaaGreatRcG
import Derived.Test.YtijdigdcmjdooaaGreatMxBF
import Derived.Test.YtijdigdcmjdooaaGreatMxBC
import Derived.Test.YtijdigdcmjdooaaGreatMxAL
import Derived.Test.YtijdigdcmjdooaaGreatMxAM
import Derived.Test.YtijdigdcmjdooaaGreatMxBE
import Derived.Test.YtijdigdcmjdooaaGreatMxAS
namespace Go.Proofs.YtijdigdcmjdooaaGreat
open Go.RowKit Go.Sort Go.Maps
set_option maxHeartbeats 8000000
set_option maxRecDepth 100000

theorem implReach_any (a a' : Option Addr) (N : Nt) (cap cap' : Nat) (q at' wy far : Int) (w : World) (hwf : Wf3 q at' wy) (hn : N.pcs.length ≤ 1048576) (hsz : ∀ p ∈ N.pcs, p.name.size ≤ 1048576) (hl : N.jts.length ≤ 1048576) (hm : ∀ j ∈ N.jts, j.name.size ≤ 1048576 ∧ j.ends.length ≤ 1048576) (hP : PcsAt w a N.pcs) (hJ : JtsAt w a' N.jts) :
    Calls Tryz.prog 8 #[.agg #[.slice a N.pcs.length cap, .slice a' N.jts.length cap'], .agg #[.int .i64 q, .int .i64 at', .int .i64 wy], .int .i64 far] w fun e w' => ∃ v, e = .returned v ∧ w'.ownsRow w.heap.size 29 3 v (reachP N (q, at', wy) far).length (partCells (reachP N (q, at', wy) far)) ∧ Below w.heap.size w w' := by
  have HP := hide hP
  have HJ := hide hJ
  have HM := hide hm
  have HSZ := hide hsz
  have HWF := hide hwf
  have hA := ((Below.refl w.heap.size w).alloc (Nat.le_refl _) (.cells #[.slice a N.pcs.length cap, .slice a' N.jts.length cap'] 26)).alloc (by simp) (.cells #[.int .i64 q, .int .i64 at', .int .i64 wy] 29)
  have HAB := hide hA
  clear hP hJ hm hsz hwf hA
  cases hok : spotOkP N q at' wy with
  | false =>
    have HE := hide (show reachP N (q, at', wy) far = [] by
      unfold reachP
      rw [if_neg]
      intro h
      rw [Bool.and_eq_true] at h
      have h2 : spotOkP N q at' wy = true := h.1
      rw [hok] at h2
      cases h2)
    have HOK := hide hok
    clear hok
    go_enter Tryz.func8, Tryz.ntmps8
    go_wp2_with fail
    refine (implSpotOk_any a a' N cap cap' q at' wy _ HWF.out hn HSZ.out hl HM.out (HP.out.later HAB.out) (HJ.out.later HAB.out)).mono ?_
    rintro e w2 ⟨rfl, hb2⟩
    rw [HOK.out]
    have HB2 := hide (HAB.out.trans (hb2.mono HAB.out.size))
    clear hb2
    go_wp2_with fail
    go_ret
    rw [HE.out]
    exact ⟨_, rfl, World.ownsRow_nil _ _ _ _, HB2.out⟩
  | true =>
    cases hin : inR far 0 1000000 with
    | false =>
      have HE := hide (show reachP N (q, at', wy) far = [] by
        unfold reachP
        rw [if_neg]
        intro h
        rw [Bool.and_eq_true, hin] at h
        cases h.2)
      have HOK := hide hok
      have HIN := hide hin
      clear hok hin
      go_enter Tryz.func8, Tryz.ntmps8
      go_wp2_with fail
      refine (implSpotOk_any a a' N cap cap' q at' wy _ HWF.out hn HSZ.out hl HM.out (HP.out.later HAB.out) (HJ.out.later HAB.out)).mono ?_
      rintro e w2 ⟨rfl, hb2⟩
      rw [HOK.out]
      have HB2 := hide (HAB.out.trans (hb2.mono HAB.out.size))
      clear hb2
      go_wp2_with fail
      refine (inRange_b HIN.out _).mono ?_
      rintro e w3 ⟨rfl, hb3⟩
      go_wp2_with fail
      go_ret
      rw [HE.out]
      exact ⟨_, rfl, World.ownsRow_nil _ _ _ _, by first | (subst hb3; exact HB2.out) | exact HB2.out.trans (hb3.mono HB2.out.size)⟩
    | true =>
      have hright : netOk N = (0, 0) := by
        simp only [spotOkP, Bool.and_eq_true, decide_eq_true_eq] at hok
        exact hok.1
      have hsp : spotS N (q, at', wy) = true := by
        simp only [spotOkP, Bool.and_eq_true, decide_eq_true_eq] at hok
        exact hok.2
      have hfr : 0 ≤ far ∧ far ≤ 1000000 := by simpa [inR] using hin
      have hx : DvOk N far ((q, at', wy), far) := ⟨hsp, by dsimp only; omega, Int.le_refl _⟩
      have HE := hide (show reachP N (q, at', wy) far = reachR N (q, at', wy) far by
        unfold reachP
        rw [if_pos]
        rw [Bool.and_eq_true]
        exact ⟨hok, hin⟩)
      have HR := hide hright
      have HX := hide hx
      have HOK := hide hok
      have HIN := hide hin
      have HME := hide (fun j (hj : j ∈ N.jts) => (HM.out j hj).2)
      have HW := hide (ends_wf hn (right_facts hright).2.2.1)
      have hmm := @run_makeMap Tryz.prog
      have b0 : ((w.alloc (.cells #[.slice a N.pcs.length cap, .slice a' N.jts.length cap'] 26)).alloc (.cells #[.int .i64 q, .int .i64 at', .int .i64 wy] 29)).cell? ⟨w.heap.size, 0, none⟩ = some (.slice a N.pcs.length cap) := by simp [go_sem]
      have b1 : ((w.alloc (.cells #[.slice a N.pcs.length cap, .slice a' N.jts.length cap'] 26)).alloc (.cells #[.int .i64 q, .int .i64 at', .int .i64 wy] 29)).cell? ⟨w.heap.size, 1, none⟩ = some (.slice a' N.jts.length cap') := by simp [go_sem]
      have s0 : ((w.alloc (.cells #[.slice a N.pcs.length cap, .slice a' N.jts.length cap'] 26)).alloc (.cells #[.int .i64 q, .int .i64 at', .int .i64 wy] 29)).cell? ⟨w.heap.size + 1, 0, none⟩ = some (.int .i64 q) := by simp [go_sem]
      have s1 : ((w.alloc (.cells #[.slice a N.pcs.length cap, .slice a' N.jts.length cap'] 26)).alloc (.cells #[.int .i64 q, .int .i64 at', .int .i64 wy] 29)).cell? ⟨w.heap.size + 1, 1, none⟩ = some (.int .i64 at') := by simp [go_sem]
      have s2 : ((w.alloc (.cells #[.slice a N.pcs.length cap, .slice a' N.jts.length cap'] 26)).alloc (.cells #[.int .i64 q, .int .i64 at', .int .i64 wy] 29)).cell? ⟨w.heap.size + 1, 2, none⟩ = some (.int .i64 wy) := by simp [go_sem]
      clear hok hin hright hsp hx
      go_enter Tryz.func8, Tryz.ntmps8
      go_wp2_with fail
      refine (implSpotOk_any a a' N cap cap' q at' wy _ HWF.out hn HSZ.out hl HM.out (HP.out.later HAB.out) (HJ.out.later HAB.out)).mono ?_
      rintro e w2 ⟨rfl, hb2⟩
      rw [HOK.out]
      have HB2 := hide (HAB.out.trans (hb2.mono HAB.out.size))
      replace b0 := cell_later' hb2 b0
      replace b1 := cell_later' hb2 b1
      replace s0 := cell_later' hb2 s0
      replace s1 := cell_later' hb2 s1
      replace s2 := cell_later' hb2 s2
      have hbl2 := cell_lt s0
      clear hb2 HAB
      go_wp2_with fail
      refine (inRange_b HIN.out _).mono ?_
      rintro e w3 ⟨rfl, hb3⟩
      obtain rfl : w2 = w3 := by first | exact hb3 | exact hb3.symm
      clear hb3
      go_wp2_with fail
      refine (layoutOf_any a a' N cap cap' _ hl HME.out HW.out (HJ.out.later HB2.out)).mono ?_
      rintro e w4 ⟨m, nS, rfl, hSE, hm1, hb4⟩
      have HSE := hide hSE
      have HB4 := hide hb4
      have hsl := cell_later' hb4 s0
      have hsl1 := cell_later' hb4 s1
      have hsl2 := cell_later' hb4 s2
      clear hSE hb4 s0 s1 s2 b0 b1
      go_upto_region 4 with fail
      have hm4 := HSE.out.lt
      have hA4 := (Below.refl w4.heap.size w4).alloc (Nat.le_refl _) (.map #[] 0)
      have hA5 := hA4.alloc (by simp) (.cells #[.slice a N.pcs.length cap, .slice a' N.jts.length cap', .map (some m), .map (some w4.heap.size), .slice none 0 0, .int .i64 0] 75)
      have HRS : Hid (RS N w ((w4.alloc (.map #[] 0)).alloc (.cells #[.slice a N.pcs.length cap, .slice a' N.jts.length cap', .map (some m), .map (some w4.heap.size), .slice none 0 0, .int .i64 0] 75)) (.slice a N.pcs.length cap) (.slice a' N.jts.length cap') m nS (w4.heap.size + 1) w4.heap.size 0 (.slice none 0 0) ((0 : Nat) : Int) [] []) := by
        have hsz4 : w.heap.size ≤ w4.heap.size := Nat.le_trans HB2.out.size HB4.out.size
        refine ⟨HB2.out.trans ((HB4.out.trans (hA5.mono HB4.out.size)).mono HB2.out.size), ⟨by omega, hsz4⟩, by omega, ?_, HSE.out.of_block (hA5.block m hm4), ?_, World.ownsRow_nil _ _ _ _⟩
        · have h := World.alloc_heap_new (w4.alloc (.map #[] 0)) (.cells #[.slice a N.pcs.length cap, .slice a' N.jts.length cap', .map (some m), .map (some w4.heap.size), .slice none 0 0, .int .i64 0] 75)
          rw [World.size_alloc] at h
          exact h
        · exact (TM.made w4).of_block (Below.heap_alloc _ _ _ (by simp))
      have t0 := cell_later' hA5 hsl
      have t1 := cell_later' hA5 hsl1
      have t2 := cell_later' hA5 hsl2
      have htl := cell_lt t0
      clear hA4 hA5 hsl hsl1 hsl2 hmm
      generalize (w4.alloc (.map #[] 0)).alloc (.cells #[.slice a N.pcs.length cap, .slice a' N.jts.length cap', .map (some m), .map (some w4.heap.size), .slice none 0 0, .int .i64 0] 75) = w5 at *
      generalize w4.heap.size + 1 = bR at *
      generalize w4.heap.size = mT at *
      have HCO := hide (come_any a a' cap cap' ((q, at', wy), far) w5 HR.out hfr.2 HX.out HP.out HRS.out (by omega) (by simp))
      have HST := hide (comeR_step (SeenI.start N []) (x := ((q, at', wy), far)) (by simp))
      have HLI := hide (LoopI.first HX.out)
      go_wp2_with fail
      refine HCO.out.mono ?_
      rintro e w6 ⟨rfl, dv6, nT6, hR6, _, _, hn6⟩
      rw [HST.out] at hR6
      have HR6 := hide hR6
      have HRE := hide (show reachR N (q, at', wy) far = match goR N 1000 (stepR N ([], []) ((q, at', wy), far)).1 (stepR N ([], []) ((q, at', wy), far)).2 with | none => [] | some out => out.mergeSort leS from rfl)
      generalize goR N 1000 (stepR N ([], []) ((q, at', wy), far)).1 (stepR N ([], []) ((q, at', wy), far)).2 = ans at *
      generalize (stepR N ([], []) ((q, at', wy), far)).1 = o0 at *
      generalize (stepR N ([], []) ((q, at', wy), far)).2 = l0 at *
      clear hR6 HCO HST HRS t0 t1 t2 htl
      go_wp2_with fail
      go_loopg [] 1001 (fun gk wr => ∃ (num nT : Nat) (dv : Value) (out : List (Int × Int × Int)) (line : List Dv), Hid (RS N w wr (.slice a N.pcs.length cap) (.slice a' N.jts.length cap') m nS bR mT nT dv (num : Int) out line) ∧ Hid (LoopI N far ans num out line) ∧ nT ≤ 1 + 2000 * num ∧ gk = 1001 - num)
      case atStart => exact ⟨0, nT6, dv6, o0, l0, HR6, HLI, by omega, rfl⟩
      case round =>
        obtain ⟨num, nT, dv, out, line, HRN, HLN, hnT, hgk⟩ := hrel
        have HSD := hide (standing_any wr HRN.out)
        have hnum := HLN.out.num
        clear HR6 HLI
        go_wp2_with fail
        refine HSD.out.mono ?_
        rintro e wr' ⟨rfl, rfl⟩
        rcases standP_cases num out.length line.length with hs | hs | hs
        · obtain ⟨_, hl1, hn1, _⟩ := standP_zero.1 hs
          have HNX := hide (HLN.out.next HR.out hs)
          have HGR := hide (goRound_any a a' cap cap' wr' HR.out hfr.2 HLN.out.go HP.out HJ.out HRN.out (by omega) hl1 (by omega))
          rw [hs]
          clear hs
          go_wp2_with fail
          refine HGR.out.mono ?_
          rintro e w7 ⟨rfl, dv7, nT7, hR7, hn7⟩
          have HR7 := hide (show RS N w w7 (.slice a N.pcs.length cap) (.slice a' N.jts.length cap') m nS bR mT nT7 dv7 ((num + 1 : Nat) : Int) (roundR N out line).1 (roundR N out line).2 from hR7)
          clear hR7 HGR
          go_wp2_with fail
          go_roundg (1001 - (num + 1))
          case measure => omega
          case rel => exact ⟨num + 1, nT7, dv7, _, _, HR7, HNX, by omega, rfl⟩
        · have HAN := hide (HLN.out.stop hs)
          have HOU := hide HLN.out.go
          have hfew := HLN.out.few
          obtain ⟨_, _, _, c3, _, _⟩ := HRN.out.cells
          have hbl := cell_lt c3
          rw [hs]
          have HSD2 := hide (standing_any wr' HRN.out)
          rw [hs] at HSD2
          clear hs
          go_wp2_with fail
          refine HSD2.out.mono ?_
          rintro e wr2 ⟨rfl, rfl⟩
          go_wp2_with fail
          refine (mapsKeys_any mT wr2).mono ?_
          rintro e w8 ⟨rfl, rfl⟩
          have hA8 := (Below.refl wr2.heap.size wr2).alloc (Nat.le_refl _) (.cells #[.map (some mT)] 72)
          have HSF := hide (sortedFunc_any wr2.heap.size mT nT out HOU.out.nd (fun s hs => wfS_of HR.out (HOU.out.out s hs)) (by omega) _ (by simp) (new_cell wr2 #[.map (some mT)] 72 0 (.map (some mT)) rfl) (HRN.out.tm.of_block (hA8.block mT HRN.out.tm.lt)))
          have HB8 := hide (HRN.out.below.trans (hA8.mono HRN.out.below.size))
          clear hA8
          go_wp2_with fail
          refine HSF.out.mono ?_
          rintro e w9 ⟨v, rfl, hrow, hb9⟩
          have HROW := hide hrow
          have HB9 := hide (HB8.out.trans (hb9.mono HB8.out.size))
          clear hrow hb9
          go_wp2_with fail
          go_ret
          refine ⟨v, rfl, ?_, HB9.out⟩
          rw [HE.out, HRE.out, HAN.out]
          exact owns_low HROW.out HB8.out.size
        · have HAN := hide (HLN.out.much hs)
          rw [hs]
          have HSD2 := hide (standing_any wr' HRN.out)
          rw [hs] at HSD2
          clear hs
          go_wp2_with fail
          refine HSD2.out.mono ?_
          rintro e wr2 ⟨rfl, rfl⟩
          go_wp2_with fail
          go_ret
          refine ⟨_, rfl, ?_, HRN.out.below⟩
          rw [HE.out, HRE.out, HAN.out]
          exact World.ownsRow_nil _ _ _ _
end Go.Proofs.YtijdigdcmjdooaaGreat

/- spec.Reach's sorting: plain, and in memory. Own work. -/
namespace Go.Proofs.YtijdigdcmjdooaaGreat
open Go.RowKit Go.Sort
set_option maxHeartbeats 4000000

/-- All but what is being moved stands in order, up to i. -/
def InsI (l : List (Int × Int × Int)) (i k : Nat) : Prop := ∀ a b (ha : a < l.length) (hb : b < l.length), a < b → b ≤ i → b ≠ k → leS l[a] l[b] = true
/-- The first ones stand in order. -/
def PreS (l : List (Int × Int × Int)) (i : Nat) : Prop := ∀ a b (ha : a < l.length) (hb : b < l.length), a < b → b < i → leS l[a] l[b] = true
theorem PreS.one (l : List (Int × Int × Int)) : PreS l 1 := fun a b _ _ h1 h2 => by omega
theorem PreS.ins {l : List (Int × Int × Int)} {i : Nat} (h : PreS l i) : InsI l i i := fun a b ha hb h1 h2 h3 => h a b ha hb h1 (by omega)
theorem PreS.all {l : List (Int × Int × Int)} {i : Nat} (h : PreS l i) (hi : l.length ≤ i) : l.Pairwise (fun a b => leS a b = true) := by
  rw [List.pairwise_iff_getElem]
  intro a b ha hb hab
  exact h a b ha hb hab (by omega)
theorem leS_of_not {a b : Int × Int × Int} (h : ltS b a = false) : leS a b = true := by unfold leS; rw [h]; rfl
theorem leS_of_lt {a b : Int × Int × Int} (h : ltS a b = true) : leS a b = true := by
  rw [ltS_iff] at h
  rw [leS_iff]
  omega
theorem InsI.done0 {l : List (Int × Int × Int)} {i : Nat} (h : InsI l i 0) : PreS l (i + 1) := fun a b ha hb h1 h2 => h a b ha hb h1 (by omega) (by omega)
theorem InsI.done {l : List (Int × Int × Int)} {i k : Nat} (h : InsI l i k) (hk : k < l.length) (h0 : 0 < k) (hki : k ≤ i) (hn : ltS l[k] (l[k - 1]'(by omega)) = false) : PreS l (i + 1) := by
  intro a b ha hb h1 h2
  by_cases e : b = k
  · subst e
    have hl := leS_of_not hn
    by_cases e2 : a = b - 1
    · subst e2; exact hl
    · exact leS_trans _ _ _ (h a (b - 1) ha (by omega) (by omega) (by omega) (by omega)) hl
  · exact h a b ha hb h1 (by omega) e
/-- Two neighbours change places. -/
abbrev swapR (l : List (Int × Int × Int)) (k : Nat) (x y : Int × Int × Int) : List (Int × Int × Int) := (l.set k y).set (k - 1) x
theorem swapR_len (l : List (Int × Int × Int)) (k : Nat) (x y) : (swapR l k x y).length = l.length := by simp [swapR]
theorem swapR_at {l : List (Int × Int × Int)} {k : Nat} {x y} (_hk : k < l.length) (_h0 : 0 < k) (a : Nat) (ha : a < (swapR l k x y).length) : (swapR l k x y)[a] = if a = k - 1 then x else if a = k then y else l[a]'(by rw [swapR_len] at ha; exact ha) := by
  rw [List.getElem_set, List.getElem_set]
  by_cases h1 : a = k - 1
  · rw [if_pos h1.symm, if_pos h1]
  · rw [if_neg (fun e => h1 e.symm), if_neg h1]
    by_cases h2 : a = k
    · rw [if_pos h2.symm, if_pos h2]
    · rw [if_neg (fun e => h2 e.symm), if_neg h2]
theorem InsI.swap {l : List (Int × Int × Int)} {i k : Nat} (h : InsI l i k) (hk : k < l.length) (h0 : 0 < k) (_hki : k ≤ i) (hn : ltS l[k] (l[k - 1]'(by omega)) = true) : InsI (swapR l k l[k] (l[k - 1]'(by omega))) i (k - 1) := by
  intro a b ha hb h1 h2 h3
  rw [swapR_at hk h0 a ha, swapR_at hk h0 b hb, if_neg h3]
  rw [swapR_len] at ha hb
  by_cases e1 : a = k - 1
  · rw [if_pos e1]
    by_cases e2 : b = k
    · rw [if_pos e2]; exact leS_of_lt hn
    · rw [if_neg e2]
      exact h k b hk hb (by omega) h2 e2
  · rw [if_neg e1]
    by_cases e2 : a = k
    · rw [if_pos e2, if_neg (by omega)]
      exact h (k - 1) b (by omega) hb (by omega) h2 (by omega)
    · rw [if_neg e2]
      by_cases e3 : b = k
      · rw [if_pos e3]
        exact h a (k - 1) ha (by omega) (by omega) (by omega) (by omega)
      · rw [if_neg e3]
        exact h a b ha hb h1 h2 e3
theorem swapR_perm {l : List (Int × Int × Int)} {k : Nat} (hk : k < l.length) (h0 : 0 < k) : (swapR l k l[k] (l[k - 1]'(by omega))).Perm l := by
  have e : swapR l k l[k] (l[k - 1]'(by omega)) = l.take (k - 1) ++ (l[k] :: (l[k - 1]'(by omega)) :: l.drop (k + 1)) := by
    refine List.ext_getElem (by rw [swapR_len]; simp; omega) fun a ha hb => ?_
    rw [swapR_at hk h0 a ha]
    by_cases h1 : a < k - 1
    · rw [if_neg (by omega), if_neg (by omega), List.getElem_append_left (by simp; omega)]
      simp
    · rw [List.getElem_append_right (by simp; omega)]
      have hm : min (k - 1) l.length = k - 1 := by omega
      by_cases h2 : a = k - 1
      · subst h2
        simp [hm]
      · by_cases h3 : a = k
        · subst h3
          rw [if_neg (by omega), if_pos rfl]
          have e1 : a - (l.take (a - 1)).length = 0 + 1 := by simp; omega
          simp only [e1, List.getElem_cons_succ, List.getElem_cons_zero]
        · rw [if_neg h2, if_neg h3]
          have e1 : a - (l.take (k - 1)).length = (a - (k + 1)) + 1 + 1 := by simp; omega
          simp only [e1, List.getElem_cons_succ, List.getElem_drop]
          congr 1
          omega
  have e2 : l = l.take (k - 1) ++ ((l[k - 1]'(by omega)) :: l[k] :: l.drop (k + 1)) := by
    have h1 : l.drop (k - 1) = (l[k - 1]'(by omega)) :: l.drop (k - 1 + 1) := List.drop_eq_getElem_cons (by omega)
    have h2 : l.drop k = l[k] :: l.drop (k + 1) := List.drop_eq_getElem_cons hk
    rw [show k - 1 + 1 = k by omega, h2] at h1
    rw [← h1, List.take_append_drop]
  rw [e]
  refine List.Perm.trans (List.Perm.append_left _ (List.Perm.swap ..)) ?_
  rw [← e2]
/-! ### In memory -/
theorem partCells_set (l : List (Int × Int × Int)) : ∀ (p : Nat) (s : Int × Int × Int), p < l.length → partCells (l.set p s) = (((partCells l).set (p * 3) (.int .i64 s.1)).set (p * 3 + 1) (.int .i64 s.2.1)).set (p * 3 + 2) (.int .i64 s.2.2) := by
  induction l with
  | nil => intro p s hp; simp at hp
  | cons x l ih =>
    intro p s hp
    have e : ∀ y : Int × Int × Int, partCells (y :: l) = .int .i64 y.1 :: .int .i64 y.2.1 :: .int .i64 y.2.2 :: partCells l := fun y => by simp [partCells]
    match p, hp with
    | 0, _ =>
      rw [List.set_cons_zero, e, e]
      rfl
    | p + 1, hp =>
      rw [List.set_cons_succ, e]
      have e2 : partCells (x :: l.set p s) = .int .i64 x.1 :: .int .i64 x.2.1 :: .int .i64 x.2.2 :: partCells (l.set p s) := by simp [partCells]
      rw [e2, ih p s (by simpa using hp)]
      rw [show (p + 1) * 3 = p * 3 + 1 + 1 + 1 by omega]
      rfl
theorem row_set3 {w : World} {base g n c : Nat} {T : TypeId} {l : List (Int × Int × Int)} (h : w.ownsRow base T 3 (.slice (some ⟨g, 0, none⟩) n c) n (partCells l)) {p : Nat} (hp : p < l.length) (s : Int × Int × Int) :
    (((w.setCell ⟨g, p * 3, none⟩ (.int .i64 s.1)).setCell ⟨g, p * 3 + 1, none⟩ (.int .i64 s.2.1)).setCell ⟨g, p * 3 + 2, none⟩ (.int .i64 s.2.2)).ownsRow base T 3 (.slice (some ⟨g, 0, none⟩) n c) n (partCells (l.set p s)) := by
  rw [partCells_set l p s hp]
  exact (((h.stored (p * 3) (.int .i64 s.1)).1.stored (p * 3 + 1) (.int .i64 s.2.1)).1.stored (p * 3 + 2) (.int .i64 s.2.2)).1
end Go.Proofs.YtijdigdcmjdooaaGreat
