/- spec.Reach. Own work. -/
import Derived.Test.YtijdigdcmjdooaaGreatMxBC
import Derived.Test.YtijdigdcmjdooaaGreatMxBG
import Derived.Test.YtijdigdcmjdooaaGreatMxAU
import Derived.Test.YtijdigdcmjdooaaGreatMxAE
import Derived.Test.YtijdigdcmjdooaaGreatMxAQ
import Derived.Test.YtijdigdcmjdooaaGreatMxAF
import Derived.Deep.RegionHeld3
import Derived.Lib.QuietBelow
namespace Go.Proofs.YtijdigdcmjdooaaGreat
open Go.RowKit Go.Sort
set_option maxHeartbeats 8000000
set_option maxRecDepth 100000

theorem infoSpotS : (Tryz.prog.info? 29).map (fun i => (i.zero, i.size, i.bytes)) = some (some (.agg #[.int .i64 0, .int .i64 0, .int .i64 0]), 3, 24) := by kernel_rfl
theorem l4spot_any (x y : Int × Int × Int) (w : World) :
    Calls Tryz.prog 41 #[.agg #[.int .i64 x.1, .int .i64 x.2.1, .int .i64 x.2.2], .agg #[.int .i64 y.1, .int .i64 y.2.1, .int .i64 y.2.2]] w fun e w' => e = .returned (.bool (ltS x y)) ∧ Below w.heap.size w w' := by
  obtain ⟨x0, x1, x2⟩ := x
  obtain ⟨y0, y1, y2⟩ := y
  have hbW : Below w.heap.size w ((w.alloc (.cells #[.int .i64 x0, .int .i64 x1, .int .i64 x2] 29)).alloc (.cells #[.int .i64 y0, .int .i64 y1, .int .i64 y2] 29)) := ((Below.refl _ _).alloc (Nat.le_refl _) _).alloc (by simp) _
  by_cases h1 : x0 = y0
  · subst h1
    have q1 : (x0 != x0) = false := by simp
    by_cases h2 : x1 = y1
    · subst h2
      have q2 : (x1 != x1) = false := by simp
      have HR := hide (show ltS (x0, x1, x2) (x0, x1, y2) = decide (x2 < y2) by simp [ltS])
      go_enter Tryz.func41, Tryz.ntmps41
      go_wp2_with fail
      go_ret
      exact ⟨ret_b HR.out.symm, hbW⟩
    · have q2 : (x1 != y1) = true := by rw [bne_iff_ne]; exact h2
      have HR := hide (show ltS (x0, x1, x2) (x0, y1, y2) = decide (x1 < y1) by simp [ltS, h2])
      clear h2
      go_enter Tryz.func41, Tryz.ntmps41
      go_wp2_with fail
      go_ret
      exact ⟨ret_b HR.out.symm, hbW⟩
  · have q1 : (x0 != y0) = true := by rw [bne_iff_ne]; exact h1
    have HR := hide (show ltS (x0, x1, x2) (y0, y1, y2) = decide (x0 < y0) by simp [ltS, h1])
    clear h1
    go_enter Tryz.func41, Tryz.ntmps41
    go_wp2_with fail
    go_ret
    exact ⟨ret_b HR.out.symm, hbW⟩
theorem l4spot_q (x y : Int × Int × Int) (w : World) {r : Bool} (hr : ltS x y = r) (d : Nat) (os : Array Obj) :
    Calls Tryz.prog 41 #[.agg #[.int .i64 x.1, .int .i64 x.2.1, .int .i64 x.2.2], .agg #[.int .i64 y.1, .int .i64 y.2.1, .int .i64 y.2.2]] (grow (redrawn w d) os) fun e w'' => e = .returned (.bool r) ∧ ∃ p : Regrown, w'' = grow (redrawn w p.d) p.os := by
  subst hr
  exact Calls.regrown_of (l4spot_any x y _)
theorem specReach_any (a a' : Option Addr) (N : Nt) (cap cap' : Nat) (q at' wy far : Int) (w : World) (hn : N.pcs.length ≤ 1048576) (hsz : ∀ p ∈ N.pcs, p.name.size ≤ 1048576) (hl : N.jts.length ≤ 1048576) (hm : ∀ j ∈ N.jts, j.name.size ≤ 1048576 ∧ j.ends.length ≤ 1048576) (hP : PcsAt w a N.pcs) (hJ : JtsAt w a' N.jts) :
    Calls Tryz.prog 9 #[.agg #[.slice a N.pcs.length cap, .slice a' N.jts.length cap'], .agg #[.int .i64 q, .int .i64 at', .int .i64 wy], .int .i64 far] w fun e w' => ∃ v, e = .returned v ∧ w'.ownsRow w.heap.size 29 3 v (reachP N (q, at', wy) far).length (partCells (reachP N (q, at', wy) far)) ∧ Below w.heap.size w w' := by
  have HP := hide hP
  have HJ := hide hJ
  have HM := hide hm
  have HSZ := hide hsz
  have hA := ((Below.refl w.heap.size w).alloc (Nat.le_refl _) (.cells #[.slice a N.pcs.length cap, .slice a' N.jts.length cap'] 26)).alloc (by simp) (.cells #[.int .i64 q, .int .i64 at', .int .i64 wy] 29)
  have HAB := hide hA
  clear hP hJ hm hsz hA
  cases hok : spotOkP N q at' wy with
  | false =>
    have HE := hide (show reachP N (q, at', wy) far = [] by
      unfold reachP
      rw [if_neg]
      intro h
      rw [Bool.and_eq_true] at h
      have h2 : spotOkP N q at' wy = true := h.1
      rw [hok] at h2
      cases h2)
    have HOK := hide hok
    clear hok
    go_enter Tryz.func9, Tryz.ntmps9
    go_wp2_with fail
    refine (specSpotOk_any a a' N cap cap' q at' wy _ hn HSZ.out hl HM.out (HP.out.later HAB.out) (HJ.out.later HAB.out)).mono ?_
    rintro e w2 ⟨rfl, hb2⟩
    rw [HOK.out]
    have HB2 := hide (HAB.out.trans (hb2.mono HAB.out.size))
    clear hb2
    go_wp2_with fail
    go_ret
    rw [HE.out]
    exact ⟨_, rfl, World.ownsRow_nil _ _ _ _, HB2.out⟩
  | true =>
    cases hin : inR far 0 1000000 with
    | false =>
      have HE := hide (show reachP N (q, at', wy) far = [] by
        unfold reachP
        rw [if_neg]
        intro h
        rw [Bool.and_eq_true, hin] at h
        cases h.2)
      have HOK := hide hok
      have HIN := hide hin
      clear hok hin
      go_enter Tryz.func9, Tryz.ntmps9
      go_wp2_with fail
      refine (specSpotOk_any a a' N cap cap' q at' wy _ hn HSZ.out hl HM.out (HP.out.later HAB.out) (HJ.out.later HAB.out)).mono ?_
      rintro e w2 ⟨rfl, hb2⟩
      rw [HOK.out]
      have HB2 := hide (HAB.out.trans (hb2.mono HAB.out.size))
      clear hb2
      go_wp2_with fail
      refine (l1in_b HIN.out _).mono ?_
      rintro e w3 ⟨rfl, hb3⟩
      go_wp2_with fail
      go_ret
      rw [HE.out]
      exact ⟨_, rfl, World.ownsRow_nil _ _ _ _, by first | (subst hb3; exact HB2.out) | exact HB2.out.trans (hb3.mono HB2.out.size)⟩
    | true =>
      obtain ⟨iS, hiS, hzS0, hzS1, hzS2⟩ := info_parts infoSpotS
      obtain ⟨iC, hiC, hzC0, hzC1, hzC2⟩ := info_parts infoCf
      have HIS := hide hiS
      have HS0 := hide hzS0
      have HS1 := hide hzS1
      have HS2 := hide hzS2
      have HIC := hide hiC
      have HC0 := hide hzC0
      have HC1 := hide hzC1
      have HC2 := hide hzC2
      have hright : netOk N = (0, 0) := by
        simp only [spotOkP, Bool.and_eq_true, decide_eq_true_eq] at hok
        exact hok.1
      have hsp : spotS N (q, at', wy) = true := by
        simp only [spotOkP, Bool.and_eq_true, decide_eq_true_eq] at hok
        exact hok.2
      have hfr : 0 ≤ far ∧ far ≤ 1000000 := by simpa [inR] using hin
      have hx : DvOk N far ((q, at', wy), far) := ⟨hsp, by dsimp only; omega, Int.le_refl _⟩
      have HE := hide (show reachP N (q, at', wy) far = reachR N (q, at', wy) far by
        unfold reachP
        rw [if_pos]
        rw [Bool.and_eq_true]
        exact ⟨hok, hin⟩)
      have HR := hide hright
      have HX := hide hx
      have HOK := hide hok
      have HIN := hide hin
      have HME := hide (fun j (hj : j ∈ N.jts) => (HM.out j hj).2)
      have hsf := spot_facts hsp
      dsimp only at hsf
      obtain ⟨k0, rfl⟩ := Int.eq_ofNat_of_zero_le hsf.1
      have hk0 : k0 < N.pcs.length := by omega
      have hlen := lenAt_pos HR.out k0 (by omega) (by omega)
      have HLN := hide (lenAt_nat N k0 hk0)
      rw [HLN.out] at hsf hlen
      have hsw := hsf.2.2.1
      have b0 : ((w.alloc (.cells #[.slice a N.pcs.length cap, .slice a' N.jts.length cap'] 26)).alloc (.cells #[.int .i64 k0, .int .i64 at', .int .i64 wy] 29)).cell? ⟨w.heap.size, 0, none⟩ = some (.slice a N.pcs.length cap) := by simp [go_sem]
      have b1 : ((w.alloc (.cells #[.slice a N.pcs.length cap, .slice a' N.jts.length cap'] 26)).alloc (.cells #[.int .i64 k0, .int .i64 at', .int .i64 wy] 29)).cell? ⟨w.heap.size, 1, none⟩ = some (.slice a' N.jts.length cap') := by simp [go_sem]
      have s0 : ((w.alloc (.cells #[.slice a N.pcs.length cap, .slice a' N.jts.length cap'] 26)).alloc (.cells #[.int .i64 k0, .int .i64 at', .int .i64 wy] 29)).cell? ⟨w.heap.size + 1, 0, none⟩ = some (.int .i64 k0) := by simp [go_sem]
      have s1 : ((w.alloc (.cells #[.slice a N.pcs.length cap, .slice a' N.jts.length cap'] 26)).alloc (.cells #[.int .i64 k0, .int .i64 at', .int .i64 wy] 29)).cell? ⟨w.heap.size + 1, 1, none⟩ = some (.int .i64 at') := by simp [go_sem]
      have s2 : ((w.alloc (.cells #[.slice a N.pcs.length cap, .slice a' N.jts.length cap'] 26)).alloc (.cells #[.int .i64 k0, .int .i64 at', .int .i64 wy] 29)).cell? ⟨w.heap.size + 1, 2, none⟩ = some (.int .i64 wy) := by simp [go_sem]
      have HSF := hide (show ∀ o, ((w.alloc (.cells #[.slice a N.pcs.length cap, .slice a' N.jts.length cap'] 26)).alloc (.cells #[.int .i64 k0, .int .i64 at', .int .i64 wy] 29)).frozen? ⟨w.heap.size + 1, o, none⟩ = false from fun o => by simp [go_sem])
      have hbs : w.heap.size + 1 < ((w.alloc (.cells #[.slice a N.pcs.length cap, .slice a' N.jts.length cap'] 26)).alloc (.cells #[.int .i64 k0, .int .i64 at', .int .i64 wy] 29)).heap.size := by simp
      clear hok hin hright hsp hx hiS hzS0 hzS1 hzS2 hiC hzC0 hzC1 hzC2
      go_enter Tryz.func9, Tryz.ntmps9
      go_wp2_with fail
      refine (specSpotOk_any a a' N cap cap' k0 at' wy _ hn HSZ.out hl HM.out (HP.out.later HAB.out) (HJ.out.later HAB.out)).mono ?_
      rintro e w2 ⟨rfl, hb2⟩
      rw [HOK.out]
      have HB2 := hide (HAB.out.trans (hb2.mono HAB.out.size))
      replace b0 := cell_later' hb2 b0
      replace b1 := cell_later' hb2 b1
      replace s0 := cell_later' hb2 s0
      replace s1 := cell_later' hb2 s1
      replace s2 := cell_later' hb2 s2
      replace HSF := hide (show ∀ o, w2.frozen? ⟨w.heap.size + 1, o, none⟩ = false from fun o => by rw [hb2.frozen (p := ⟨w.heap.size + 1, o, none⟩) hbs]; exact HSF.out o)
      have hbl2 := cell_lt s0
      clear hb2 HAB hbs
      go_wp2_with fail
      refine (l1in_b HIN.out _).mono ?_
      rintro e w3 ⟨rfl, hb3⟩
      obtain rfl : w2 = w3 := by first | exact hb3 | exact hb3.symm
      clear hb3
      go_wp2_with fail
      refine (l3room_any a a' N cap cap' k0 at' wy _ hk0 (by omega) (by omega) (HP.out.later HB2.out)).mono ?_
      rintro e w4 ⟨rfl, hb4⟩
      have HB4 := hide (HB2.out.trans (hb4.mono HB2.out.size))
      replace b0 := cell_later' hb4 b0
      replace b1 := cell_later' hb4 b1
      replace s0 := cell_later' hb4 s0
      replace s1 := cell_later' hb4 s1
      replace s2 := cell_later' hb4 s2
      have f1 : w4.frozen? ⟨w.heap.size + 1, 1, none⟩ = false := by rw [hb4.frozen (p := ⟨w.heap.size + 1, 1, none⟩) hbl2]; exact HSF.out 1
      have hbl4 := cell_lt s0
      clear hb4 HSF
      by_cases he : far ≤ roomP N k0 at' wy
      · have q1 : decide (roomP N k0 at' wy ≥ far) = true := decide_eq_true he
        have HEN := hide (show endsR N (((k0 : Int), at', wy), far) = true from decide_eq_true he)
        have HRR := hide (show reachR N ((k0 : Int), at', wy) far = [((k0 : Int), at' + far * wy, wy)] by
          unfold reachR
          rw [step_end HEN.out]
          dsimp only
          rw [goR_nil]
          simp [addO, toldR])
        have hwr1 : IntKind.i64.wrap (far * wy) = far * wy := by rw [IntKind.wrap_i64]; rcases hsw with rfl | rfl <;> omega
        have hwr2 : IntKind.i64.wrap (at' + far * wy) = at' + far * wy := by
          have hr2 : roomP N k0 at' wy ≤ 10000000 := by
            unfold roomP
            rw [HLN.out]
            split <;> omega
          rw [IntKind.wrap_i64]
          rcases hsw with rfl | rfl <;> omega
        have hlo := HB4.out.size
        have HBF := hide ((HB4.out.setCell (p := ⟨w.heap.size + 1, 1, none⟩) (by show w.heap.size ≤ w.heap.size + 1; omega) (.int .i64 (at' + far * wy))).alloc (by simp; omega) (.cells #[.int .i64 k0, .int .i64 (at' + far * wy), .int .i64 wy] 29))
        have HOF := hide (World.ownsRow_lit (base := w.heap.size) (e := 29) (size := 3) (w4.setCell ⟨w.heap.size + 1, 1, none⟩ (.int .i64 (at' + far * wy))) #[.int .i64 k0, .int .i64 (at' + far * wy), .int .i64 wy] 1 (by simp; omega) (by unfold maxLen; omega) (by simp))
        clear he
        go_wp2_with fail
        go_ret
        rw [HE.out, HRR.out]
        exact ⟨_, rfl, by have h := HOF.out; rw [World.size_setCell] at h; exact h, HBF.out⟩
      · have q1 : decide (roomP N k0 at' wy ≥ far) = false := decide_eq_false he
        have HEN := hide (show endsR N (((k0 : Int), at', wy), far) = false from decide_eq_false he)
        have HLI := hide (LoopI.first HX.out)
        have HRE := hide (show reachR N ((k0 : Int), at', wy) far = match goR N 1000 (stepR N ([], []) (((k0 : Int), at', wy), far)).1 (stepR N ([], []) (((k0 : Int), at', wy), far)).2 with | none => [] | some out => out.mergeSort leS from rfl)
        rw [step_go HEN.out] at HLI HRE
        have hlo := HB4.out.size
        have HRI : Hid (RI w (w4.alloc (.cells #[.int .i64 k0, .int .i64 at', .int .i64 wy, .int .i64 0, .slice none 0 0] 87)) (.slice a N.pcs.length cap) (.slice a' N.jts.length cap') far (.slice none 0 0) [] (.slice (some ⟨w4.heap.size, 0, none⟩) 1 1) [(((k0 : Int), at', wy), far)] (.slice none 0 0) []) := by
          have hA := (Below.refl w4.heap.size w4).alloc (Nat.le_refl _) (.cells #[.int .i64 k0, .int .i64 at', .int .i64 wy, .int .i64 0, .slice none 0 0] 87)
          refine ⟨cell_later' hA b0, cell_later' hA b1, HB4.out.trans (hA.mono HB4.out.size), World.ownsRow_nil _ _ _ _, ?_, World.ownsRow_nil _ _ _ _, fun g e => by simp [Value.ownBlock] at e⟩
          have h := World.ownsRow_lit (base := w.heap.size + 2) (e := 87) (size := 5) w4 #[.int .i64 k0, .int .i64 at', .int .i64 wy, .int .i64 0, .slice none 0 0] 1 (by omega) (by unfold maxLen; omega) (by simp)
          have e : lcCells far [(((k0 : Int), at', wy), far)] = [.int .i64 k0, .int .i64 at', .int .i64 wy, .int .i64 0, .slice none 0 0] := by simp [lcCells, lc5]
          rw [e]
          exact h
        have HS0' := hide (show ((addO [] (((k0 : Int), at', wy), far)) : List Dv) = [(((k0 : Int), at', wy), far)] by simp [addO])
        dsimp only at HLI HRE
        rw [HS0'.out] at HLI HRE
        clear he b0 b1
        generalize goR N 1000 [] [(((k0 : Int), at', wy), far)] = ans at *
        have HL1 : Hid (∃ (num : Nat) (out : List (Int × Int × Int)) (line : List Dv), (1001 : Nat) = 1001 - num ∧ (0 : Int) = num ∧ num ≤ 1000 ∧ out.length ≤ 200 ∧ line.length ≤ 1000 ∧ RI w (w4.alloc (.cells #[.int .i64 k0, .int .i64 at', .int .i64 wy, .int .i64 0, .slice none 0 0] 87)) (.slice a N.pcs.length cap) (.slice a' N.jts.length cap') far (.slice none 0 0) out (.slice (some ⟨w4.heap.size, 0, none⟩) 1 1) line (.slice none 0 0) [] ∧ LoopI N far ans num out line) := ⟨0, [], _, rfl, rfl, by omega, by simp, by simp, HRI.out, HLI.out⟩
        clear HRI HLI HS0'
        go_wp2_with fail
        generalize w4.alloc (.cells #[.int .i64 k0, .int .i64 at', .int .i64 wy, .int .i64 0, .slice none 0 0] 87) = w5 at *
        go_loopg [7, 8, 9, 10, 12, 13, 14, 16, 17, 18, 19, 21, 22, 24] 1001 (fun gk s7 s8 s9 _ _ _ _ _ _ _ _ _ _ _ wr => ∃ (num : Nat) (out : List (Int × Int × Int)) (line : List Dv), gk = 1001 - num ∧ s9 = .int .i64 num ∧ num ≤ 1000 ∧ out.length ≤ 200 ∧ line.length ≤ 1000 ∧ Hid (RI w wr (.slice a N.pcs.length cap) (.slice a' N.jts.length cap') far s7 out s8 line (.slice none 0 0) []) ∧ Hid (LoopI N far ans num out line))
        case atStart =>
          obtain ⟨num, out, line, h1, h2, h3, h4, h5, h6, h7⟩ := HL1.out
          exact ⟨num, out, line, h1, by rw [h2], h3, h4, h5, h6, h7⟩
        case round =>
          obtain ⟨num, out, line, hgk, rfl, hnum, hou, hli, HRI, HLI⟩ := hrel
          clear HL1
          obtain ⟨zo, co, rfl⟩ := sps_form HRI.out.oo
          obtain ⟨z, cl, rfl⟩ := lcs_form HRI.out.ol
          by_cases h0 : line.length = 0
          · have HAN := hide (HLI.out.stop (standP_one.2 ⟨hou, hli, hnum, h0⟩))
            rw [h0]
            have HOO := hide HRI.out.oo
            have HBW := hide HRI.out.below
            have HPN := hide (show out.length ≤ 200 from hou)
            clear HRI HLI h0 hli hnum
            go_wp2_with fail
            go_loopw [25, 26, 27, 28] (fun s25 _ _ _ wx => ∃ (i : Nat) (l : List (Int × Int × Int)), 1 ≤ i ∧ i ≤ out.length + 1 ∧ s25 = .int .i64 i ∧ l.length = out.length ∧ Hid (wx.ownsRow (w.heap.size + 2) 29 3 (.slice zo out.length co) out.length (partCells l)) ∧ Hid (l.Perm out) ∧ Hid (PreS l i) ∧ Hid (Below w.heap.size w wx)) (fun s25 _ _ _ _ => out.length + 1 - (intOf s25).toNat)
            case atStart => exact ⟨1, out, Nat.le_refl _, by omega, rfl, rfl, HOO, List.Perm.refl _, PreS.one out, HBW⟩
            case round =>
              obtain ⟨i, l, hi1, hi2, rfl, hll, HOW, HPM, HPS, HBX⟩ := hrel
              rename World => wx
              clear HOO HBW
              by_cases hlt : i < out.length
              · have hii : (i : Int) < (out.length : Int) := by omega
                obtain ⟨g, rfl⟩ : ∃ g, zo = some ⟨g, 0, none⟩ := by
                  have h := HOW.out
                  rw [← hll] at h
                  obtain ⟨g, e, _⟩ := sps_rd h (k := 0) (by omega)
                  exact ⟨g, e⟩
                go_wp2_with fail
                go_loopw [26, 27, 28] (fun s26 _ _ wy => ∃ (k : Nat) (l : List (Int × Int × Int)), k ≤ i ∧ s26 = .int .i64 k ∧ l.length = out.length ∧ Hid (wy.ownsRow (w.heap.size + 2) 29 3 (.slice (some ⟨g, 0, none⟩) out.length co) out.length (partCells l)) ∧ Hid (l.Perm out) ∧ Hid (InsI l i k) ∧ Hid (Below w.heap.size w wy)) (fun s26 _ _ _ => (intOf s26).toNat)
                case atStart => exact ⟨i, l, Nat.le_refl _, rfl, hll, HOW, HPM, HPS.out.ins, HBX⟩
                case round =>
                  obtain ⟨k, l2, hk, rfl, hl2, HOW2, HPM2, HIN, HBY⟩ := hrel
                  rename World => wy'
                  clear HOW HPM HPS HBX
                  by_cases hk0 : k = 0
                  · subst hk0
                    have HPN2 := hide HIN.out.done0
                    go_upto_region 48 with fail
                    refine wp_region_quiet_below (by kernel_rfl) (by kernel_rfl) ?_
                    repeat (go_big_quiet_step (fail))
                    refine wpQuiet_nil ?_
                    intro _ hw'
                    obtain ⟨⟨dq, osq⟩, hw''⟩ := hw'
                    subst hw''
                    have HBQ := hide (below_regrown wy' dq osq)
                    have HOQ := hide (owns_later' HOW2.out HBQ.out)
                    have HBZ := hide (HBY.out.trans (HBQ.out.mono HBY.out.size))
                    go_wp2_with fail
                    go_roundw
                    case rel => exact ⟨i + 1, l2, by omega, by omega, by go_num, hl2, HOQ, HPM2, HPN2, HBZ⟩
                    case measure => simp [intOf]; omega
                  · obtain ⟨k1, hk1⟩ : ∃ k1 : Nat, k = k1 + 1 := ⟨k - 1, by omega⟩
                    have hki : (k : Int) < (out.length : Int) := by omega
                    have hk1i : (k1 : Int) < (out.length : Int) := by omega
                    have hkp : 0 < k := by omega
                    have hsub : (k : Int) - 1 = (k1 : Int) := by omega
                    have hwk : IntKind.i64.wrap (k1 : Int) = (k1 : Int) := by rw [IntKind.wrap_i64]; omega
                    have hkl : k < l2.length := by omega
                    have hk1l : k1 < l2.length := by omega
                    have hrow : wy'.ownsRow (w.heap.size + 2) 29 3 (.slice (some ⟨g, 0, none⟩) out.length co) l2.length (partCells l2) := by rw [hl2]; exact HOW2.out
                    obtain ⟨g1, eg1, x0, x1, x2⟩ := sps_rd hrow hkl
                    obtain rfl : g = g1 := by simpa using eg1
                    obtain ⟨g2, eg2, z0, z1, z2⟩ := sps_rd hrow hk1l
                    obtain rfl : g = g2 := by simpa using eg2
                    have hkk : k - 1 = k1 := by omega
                    have HDN := hide (show ltS l2[k] l2[k1] = false → PreS l2 (i + 1) from fun h => HIN.out.done hkl (by omega) hk (by simp only [hkk]; exact h))
                    have HSW := hide (show ltS l2[k] l2[k1] = true → InsI ((l2.set k l2[k1]).set k1 l2[k]) i k1 from fun h => by
                      have h2 := HIN.out.swap hkl (by omega) hk (by simp only [hkk]; exact h)
                      simp only [swapR, hkk] at h2
                      exact h2)
                    have HPW := hide (show ((l2.set k l2[k1]).set k1 l2[k]).Perm out from by
                      have h2 := swapR_perm hkl (show 0 < k by omega)
                      simp only [swapR, hkk] at h2
                      exact h2.trans HPM2.out)
                    have HLQ := hide (fun r (hr : ltS l2[k] l2[k1] = r) => fun d os => l4spot_q l2[k] l2[k1] wy' hr d os)
                    have hgl := cell_lt x0
                    clear hrow eg1 eg2 hk0 hk1 hkk
                    generalize l2[k] = X at *
                    generalize l2[k1] = Y at *
                    obtain ⟨X0, X1, X2⟩ := X
                    obtain ⟨Y0, Y1, Y2⟩ := Y
                    dsimp only at x0 x1 x2 z0 z1 z2
                    cases hlt2 : ltS (X0, X1, X2) (Y0, Y1, Y2) with
                    | false =>
                      have HPN2 := hide (HDN.out hlt2)
                      have HLF := hide (HLQ.out false hlt2)
                      have r0 := cell_regrown x0
                      have r1 := cell_regrown x1
                      have r2 := cell_regrown x2
                      have r3 := cell_regrown z0
                      have r4 := cell_regrown z1
                      have r5 := cell_regrown z2
                      clear hlt2 HLQ HDN HSW HPW
                      go_upto_region 48 with fail
                      clear x0 x1 x2 z0 z1 z2
                      refine wp_region_quiet_below (by kernel_rfl) (by kernel_rfl) ?_
                      repeat (go_big_quiet_step (first | exact HLF.out _ _))
                      refine wpQuiet_nil ?_
                      intro _ hw'
                      obtain ⟨⟨dq, osq⟩, hw''⟩ := hw'
                      subst hw''
                      have HBQ := hide (below_regrown wy' dq osq)
                      have HOQ := hide (owns_later' HOW2.out HBQ.out)
                      have HBZ := hide (HBY.out.trans (HBQ.out.mono HBY.out.size))
                      go_wp2_with fail
                      go_roundw
                      case rel => exact ⟨i + 1, l2, by omega, by omega, by go_num, hl2, HOQ, HPM2, HPN2, HBZ⟩
                      case measure => simp [intOf]; omega
                    | true =>
                      have HPN2 := hide (HSW.out hlt2)
                      have HLF := hide (HLQ.out true hlt2)
                      have r0 := cell_regrown x0
                      have r1 := cell_regrown x1
                      have r2 := cell_regrown x2
                      have r3 := cell_regrown z0
                      have r4 := cell_regrown z1
                      have r5 := cell_regrown z2
                      clear hlt2 HLQ HDN HSW
                      go_upto_region 48 with fail
                      refine wp_region_quiet_below (by kernel_rfl) (by kernel_rfl) ?_
                      repeat (go_big_quiet_step (first | exact HLF.out _ _))
                      refine wpQuiet_nil ?_
                      intro _ hw'
                      obtain ⟨⟨dq, osq⟩, hw''⟩ := hw'
                      subst hw''
                      have hA9 := ((below_regrown wy' dq osq).alloc (below_regrown wy' dq osq).size (.cells #[.int .i64 X0, .int .i64 X1, .int .i64 X2] 29)).alloc (by rw [World.size_alloc]; have := (below_regrown wy' dq osq).size; omega) (.cells #[.int .i64 Y0, .int .i64 Y1, .int .i64 Y2] 29)
                      have HO9 := hide (owns_later' HOW2.out hA9)
                      have HB9 := hide (HBY.out.trans (hA9.mono HBY.out.size))
                      replace x0 := cell_later' (below_regrown wy' dq osq) x0
                      replace x1 := cell_later' (below_regrown wy' dq osq) x1
                      replace x2 := cell_later' (below_regrown wy' dq osq) x2
                      replace z0 := cell_later' (below_regrown wy' dq osq) z0
                      replace z1 := cell_later' (below_regrown wy' dq osq) z1
                      replace z2 := cell_later' (below_regrown wy' dq osq) z2
                      have hg9 := cell_lt x0
                      clear r0 r1 r2 r3 r4 r5 HLF hA9
                      generalize grow (redrawn wy' dq) osq = wq at *
                      go_upto_region 52 with fail
                      clear x0 x1 x2 z0 z1 z2
                      have a0 : ((wq.alloc (.cells #[.int .i64 X0, .int .i64 X1, .int .i64 X2] 29)).alloc (.cells #[.int .i64 Y0, .int .i64 Y1, .int .i64 Y2] 29)).cell? ⟨wq.heap.size, 0, none⟩ = some (.int .i64 X0) := by simp [go_sem]
                      have a1 : ((wq.alloc (.cells #[.int .i64 X0, .int .i64 X1, .int .i64 X2] 29)).alloc (.cells #[.int .i64 Y0, .int .i64 Y1, .int .i64 Y2] 29)).cell? ⟨wq.heap.size, 1, none⟩ = some (.int .i64 X1) := by simp [go_sem]
                      have a2 : ((wq.alloc (.cells #[.int .i64 X0, .int .i64 X1, .int .i64 X2] 29)).alloc (.cells #[.int .i64 Y0, .int .i64 Y1, .int .i64 Y2] 29)).cell? ⟨wq.heap.size, 2, none⟩ = some (.int .i64 X2) := by simp [go_sem]
                      have b0 : ((wq.alloc (.cells #[.int .i64 X0, .int .i64 X1, .int .i64 X2] 29)).alloc (.cells #[.int .i64 Y0, .int .i64 Y1, .int .i64 Y2] 29)).cell? ⟨wq.heap.size + 1, 0, none⟩ = some (.int .i64 Y0) := by simp [go_sem]
                      have b1 : ((wq.alloc (.cells #[.int .i64 X0, .int .i64 X1, .int .i64 X2] 29)).alloc (.cells #[.int .i64 Y0, .int .i64 Y1, .int .i64 Y2] 29)).cell? ⟨wq.heap.size + 1, 1, none⟩ = some (.int .i64 Y1) := by simp [go_sem]
                      have b2 : ((wq.alloc (.cells #[.int .i64 X0, .int .i64 X1, .int .i64 X2] 29)).alloc (.cells #[.int .i64 Y0, .int .i64 Y1, .int .i64 Y2] 29)).cell? ⟨wq.heap.size + 1, 2, none⟩ = some (.int .i64 Y2) := by simp [go_sem]
                      generalize (wq.alloc (.cells #[.int .i64 X0, .int .i64 X1, .int .i64 X2] 29)).alloc (.cells #[.int .i64 Y0, .int .i64 Y1, .int .i64 Y2] 29) = w9 at *
                      have hrow9 : w9.ownsRow (w.heap.size + 2) 29 3 (.slice (some ⟨g, 0, none⟩) out.length co) l2.length (partCells l2) := by rw [hl2]; exact HO9.out
                      obtain ⟨g1, eg1, x0, x1, x2⟩ := sps_rd hrow9 hkl
                      obtain rfl : g = g1 := by simpa using eg1
                      have f0 := HO9.out.frozenAt (k * 3)
                      have f1 := HO9.out.frozenAt (k * 3 + 1)
                      have f2 := HO9.out.frozenAt (k * 3 + 2)
                      have hgl9 := cell_lt x0
                      have hbl9 := cell_lt b0
                      generalize l2[k] = X' at x0 x1 x2
                      obtain ⟨X0', X1', X2'⟩ := X'
                      dsimp only at x0 x1 x2
                      have HO10 := hide (row_set3 HO9.out hkl (Y0, Y1, Y2))
                      have hm10 : Mid g (g + 1) w9 (((w9.setCell ⟨g, k * 3, none⟩ (.int .i64 Y0)).setCell ⟨g, k * 3 + 1, none⟩ (.int .i64 Y1)).setCell ⟨g, k * 3 + 2, none⟩ (.int .i64 Y2)) := (((Mid.refl _ _ _).setCell (Nat.le_refl _) (by omega) _).setCell (Nat.le_refl _) (by omega) _).setCell (Nat.le_refl _) (by omega) _
                      have a0 := hm10.cell (.inr (by omega)) a0
                      have a1 := hm10.cell (.inr (by omega)) a1
                      have a2 := hm10.cell (.inr (by omega)) a2
                      have HB10 := hide (HB9.out.trans ((hm10.below (by omega)).mono (by have := (HO9.out.lt g rfl).1; omega)))
                      clear hrow9 eg1 hm10
                      go_upto_region 53 with fail
                      clear x0 x1 x2 f0 f1 f2 b0 b1 b2
                      dsimp only at HO10
                      generalize ((w9.setCell ⟨g, k * 3, none⟩ (.int .i64 Y0)).setCell ⟨g, k * 3 + 1, none⟩ (.int .i64 Y1)).setCell ⟨g, k * 3 + 2, none⟩ (.int .i64 Y2) = w10 at *
                      have hl3 : (l2.set k (Y0, Y1, Y2)).length = out.length := by simp [hl2]
                      have hrow10 : w10.ownsRow (w.heap.size + 2) 29 3 (.slice (some ⟨g, 0, none⟩) out.length co) (l2.set k (Y0, Y1, Y2)).length (partCells (l2.set k (Y0, Y1, Y2))) := by rw [hl3]; exact HO10.out
                      have hk1l' : k1 < (l2.set k (Y0, Y1, Y2)).length := by omega
                      obtain ⟨g1, eg1, x0, x1, x2⟩ := sps_rd hrow10 hk1l'
                      obtain rfl : g = g1 := by simpa using eg1
                      have f0 := HO10.out.frozenAt (k1 * 3)
                      have f1 := HO10.out.frozenAt (k1 * 3 + 1)
                      have f2 := HO10.out.frozenAt (k1 * 3 + 2)
                      have hgl10 := cell_lt x0
                      have hal10 := cell_lt a0
                      generalize (l2.set k (Y0, Y1, Y2))[k1] = X'' at x0 x1 x2
                      obtain ⟨X0'', X1'', X2''⟩ := X''
                      dsimp only at x0 x1 x2
                      have HO11 := hide (row_set3 HO10.out hk1l' (X0, X1, X2))
                      have hm11 : Mid g (g + 1) w10 (((w10.setCell ⟨g, k1 * 3, none⟩ (.int .i64 X0)).setCell ⟨g, k1 * 3 + 1, none⟩ (.int .i64 X1)).setCell ⟨g, k1 * 3 + 2, none⟩ (.int .i64 X2)) := (((Mid.refl _ _ _).setCell (Nat.le_refl _) (by omega) _).setCell (Nat.le_refl _) (by omega) _).setCell (Nat.le_refl _) (by omega) _
                      have HB11 := hide (HB10.out.trans ((hm11.below (by omega)).mono (by have := (HO10.out.lt g rfl).1; omega)))
                      have hl4 : ((l2.set k (Y0, Y1, Y2)).set k1 (X0, X1, X2)).length = out.length := by simp [hl2]
                      clear hrow10 eg1 hm11
                      go_wp2_with fail
                      go_roundw
                      case rel => exact ⟨k1, _, by omega, by first | rfl | go_num | (simp [hsub]), hl4, HO11, HPW, HPN2, HB11⟩
                      case measure => simp [intOf]; omega
              · have hlen2 : out.length ≤ i := by omega
                have HEQ := hide (sorted_one HPM.out (HPS.out.all (by rw [hll]; exact hlen2)))
                have HLL := hide hll
                clear hll
                go_wp2_with fail
                go_ret
                refine ⟨_, rfl, ?_, HBX.out⟩
                rw [HE.out, HRE.out, HAN.out]
                dsimp only
                rw [← HEQ.out, HLL.out]
                exact owns_low HOW.out (by omega)
          · have h0i : (0 : Int) < (line.length : Int) := by omega
            have h0n : 0 < line.length := by omega
            have hs0 := standP_zero.2 ⟨hou, hli, hnum, Nat.pos_of_ne_zero h0⟩
            have HNX := hide (HLI.out.next HR.out hs0)
            have HGO := hide HLI.out.go
            have HSTART : Hid (∃ st, st = runR N (out, []) (candsR N (line.take 0)) ∧ RI w wr (.slice a N.pcs.length cap) (.slice a' N.jts.length cap') far (.slice zo out.length co) st.1 (.slice z line.length cl) line (.slice none 0 0) st.2) := ⟨_, rfl, HRI.out⟩
            clear h0 hs0 HRI HLI
            go_wp2_with fail
            go_loopw [7, 10, 12, 13, 14, 16, 17, 18, 19, 21, 22, 24, 63] (fun s7 s10 _ _ _ _ _ _ _ _ _ _ ix wx => ∃ (j : Nat), j ≤ line.length ∧ ix = .int .i64 j ∧ Hid (∃ st, st = runR N (out, []) (candsR N (line.take j)) ∧ RI w wx (.slice a N.pcs.length cap) (.slice a' N.jts.length cap') far s7 st.1 (.slice z line.length cl) line s10 st.2)) (fun _ _ _ _ _ _ _ _ _ _ _ _ ix _ => line.length - (intOf ix).toNat)
            case atStart => exact ⟨0, Nat.zero_le _, rfl, HSTART⟩
            case round =>
              obtain ⟨j, hj, rfl, HST⟩ := hrel
              clear HSTART
              rename World => wx
              by_cases hlt : j < line.length
              · obtain ⟨st, hst, hRI⟩ := HST.out
                subst hst
                obtain ⟨g, rfl, e0, e1, e2, e3, e4⟩ := lcs_rd hRI.ol hlt
                have hCj := HGO.out.line line[j] (List.getElem_mem hlt)
                have HSO := hide (sons_ok HR.out hCj.1 hCj.2)
                have HCS := hide (candsR_succ (N := N) hlt)
                have HLO := hide (show ∀ g', u7.ownBlock = some g' ∨ u10.ownBlock = some g' → g' < wx.heap.size from fun g' e => e.elim (fun e => (hRI.oo.lt g' e).2) (fun e => (hRI.on.lt g' e).2))
                have hsf := spot_facts hCj.1.spot
                have hlf := hCj.1.left
                have hgl := cell_lt e0
                have hji : (j : Int) < (line.length : Int) := by omega
                have hcj := candsR_len N (line.take j)
                rw [List.length_take] at hcj
                have HRX := hide hRI
                clear hRI hCj HST
                generalize line[j] = ci at *
                obtain ⟨⟨q9, ca, t2⟩, l⟩ := ci
                dsimp only at *
                obtain ⟨kq, rfl⟩ := Int.eq_ofNat_of_zero_le hsf.1
                have hkq : kq < N.pcs.length := by omega
                have hlen := lenAt_pos HR.out kq (by omega) (by omega)
                have HLN := hide (lenAt_nat N kq hkq)
                rw [HLN.out] at hsf hlen
                have hrm : 0 ≤ roomP N kq ca t2 ∧ roomP N kq ca t2 ≤ 10000000 := by
                  unfold roomP
                  rw [HLN.out]
                  split <;> omega
                obtain ⟨hx, hy, hH⟩ : ∃ hx hy, headP kq t2 = (hx, hy) := ⟨_, _, rfl⟩
                have hst : stepOk N.pcs.length ((kq : Int), t2) = true := by
                  simp only [stepOk, inR, Bool.and_eq_true, decide_eq_true_eq, Bool.or_eq_true, beq_iff_eq]
                  omega
                have HE1 := hide (show endOk N.pcs.length (hx, hy) = true by have := (stepOk_ends hst).1; dsimp only at this; rw [hH] at this; exact this)
                have HH := hide hH
                have hA8 := bS (w := wx) (.cells #[.int .i64 kq, .int .i64 ca, .int .i64 t2, .int .i64 (far - l), .slice none 0 0] 87)
                have HL8 := hide (HRX.out.later hA8)
                have y0 := new_cell wx #[.int .i64 kq, .int .i64 ca, .int .i64 t2, .int .i64 (far - l), .slice none 0 0] 87 0 (.int .i64 kq) rfl
                have y1 := new_cell wx #[.int .i64 kq, .int .i64 ca, .int .i64 t2, .int .i64 (far - l), .slice none 0 0] 87 1 (.int .i64 ca) rfl
                have y2 := new_cell wx #[.int .i64 kq, .int .i64 ca, .int .i64 t2, .int .i64 (far - l), .slice none 0 0] 87 2 (.int .i64 t2) rfl
                have y3 := new_cell wx #[.int .i64 kq, .int .i64 ca, .int .i64 t2, .int .i64 (far - l), .slice none 0 0] 87 3 (.int .i64 (far - l)) rfl
                clear hst hH hA8 HRX
                go_upto_region 15 with fail
                clear e0 e1 e2 e3 e4
                generalize wx.alloc (.cells #[.int .i64 kq, .int .i64 ca, .int .i64 t2, .int .i64 (far - l), .slice none 0 0] 87) = w8 at *
                generalize wx.heap.size = bC at *
                have n0 := HL8.out.n0
                have n1 := HL8.out.n1
                have HB8 := hide HL8.out.below
                have h8 : Below w8.heap.size w8 w8.drew := (Below.refl _ _).drew
                have hn8 := cell_lt n0
                have hy8 := cell_lt y0
                go_cut [13, 14, 63] from 63 to 169 (fun s13 s14 s63 wz => s63 = .int .i64 j ∧ ∃ (ji ii : Nat), s13 = .int .i64 ji ∧ s14 = .int .i64 ii ∧ At N.jts (hx, hy) ji ii ∧ Hid (Below w8.heap.size w8 wz))
                case first =>
                  go_region_law (first
                    | (go_simp; go_at_call 38; refine (l3head_at HH.out _).mono ?_; rintro e wS ⟨rfl, hbS⟩; have HBS := hide (h8.trans hbS); have m0 := cell_later' HBS.out n0; have m1 := cell_later' HBS.out n1; clear hbS)
                    | (go_simp; go_at_call 37; refine (l1at_right _ _ N _ _ hx hy _ hl HME.out HR.out HE1.out (HJ.out.later (HB8.out.trans (HBS.out.mono HB8.out.size)))).mono ?_; rintro e wT ⟨ji, ii, rfl, hat, hbT⟩; have HBT := hide (HBS.out.trans (hbT.mono HBS.out.size)); have HAT := hide hat; clear hbT hat))
                  all_goals
                    simp only [Act.put, List.getElem_toArray, List.getElem_cons_succ, List.getElem_cons_zero, List.setIfInBounds_toArray, List.set_cons_zero, List.set_cons_succ]
                    go_wp2_with fail
                    go_meet
                    case rel => exact ⟨rfl, ji, ii, rfl, rfl, HAT.out, HBT⟩
                case rest =>
                  obtain ⟨rfl, ji, ii, rfl, rfl, hat, HB9⟩ := hcut
                  rename World => w9
                  have HL9 := hide (HL8.out.later HB9.out)
                  replace n0 := cell_later' HB9.out n0
                  replace n1 := cell_later' HB9.out n1
                  replace y0 := cell_later' HB9.out y0
                  replace y1 := cell_later' HB9.out y1
                  replace y2 := cell_later' HB9.out y2
                  replace y3 := cell_later' HB9.out y3
                  have HB9' := hide (HB8.out.trans (HB9.out.mono HB8.out.size))
                  have hs9 := HB9.out.size
                  have HAT := hide hat
                  obtain ⟨hjl, hil, _⟩ := hat
                  have H3 := hide (show jb3 N.pcs.length N.jts[ji] = false by rw [← jtBad3_jb3 hjl]; exact (right_facts HR.out).2.2.1 ji hjl)
                  have HNX2 := hide (show nxP N (headP kq t2) = acr N.jts[ji] ii by rw [HH.out]; exact nx_at HR.out HAT.out hjl)
                  obtain ⟨jb, jo, ea, ec, rfl, k0', kk1, k2, hEnds⟩ := (HJ.out.later HB9'.out) ji hjl
                  have HEND := hide hEnds
                  have hjii : (ji : Int) < (N.jts.length : Int) := by omega
                  have hjb := cell_lt k0'
                  have hnb := cell_lt n0
                  clear hEnds HB9 HL8 HB8
                  go_wp2_with fail
                  refine (l1across_any N.pcs.length N.jts[ji] ea ec ii _ H3.out hil HEND.out).mono ?_
                  rintro e w10 ⟨v, rfl, hNE, hb10⟩
                  obtain ⟨za, zc2, rfl, hEA, hrow⟩ := hNE
                  have HEA := hide hEA
                  have HROW := hide (show (acr N.jts[ji] ii).length = 0 ∨ ∃ b, w9.heap.size ≤ b ∧ za = some ⟨b, 0, none⟩ from hrow.imp id (fun ⟨b, h1, h2, _⟩ => ⟨b, h1, h2⟩))
                  have HL10 := hide (HL9.out.later hb10)
                  replace y0 := cell_later' hb10 y0
                  replace y1 := cell_later' hb10 y1
                  replace y2 := cell_later' hb10 y2
                  replace y3 := cell_later' hb10 y3
                  have hs10 := hb10.size
                  have hal := acr_len N.jts[ji] ii
                  have HEO := hide (fun e (he : e ∈ acr N.jts[ji] ii) => show endOk N.pcs.length e = true from (grN N HR.out).ok (headP kq t2) e (by show e ∈ nxP N (headP kq t2); rw [HNX2.out]; exact he))
                  have HTK := hide (fun i (hi : i < (acr N.jts[ji] ii).length) => sonsR_take (c := (((kq : Int), ca, t2), l)) HNX2.out hi)
                  have HTA := hide (sonsR_all (c := (((kq : Int), ca, t2), l)) HNX2.out)
                  have HMS := hide (show ∀ e ∈ acr N.jts[ji] ii, (enterP N e, l - roomP N kq ca t2) ∈ sonsR N (((kq : Int), ca, t2), l) from fun e he => List.mem_map.2 ⟨e, by rw [show nxP N (headP (((kq : Int), ca, t2), l).1.1 (((kq : Int), ca, t2), l).1.2.2) = acr N.jts[ji] ii from HNX2.out]; exact he, rfl⟩)
                  clear hb10 hEA hrow k0' kk1 k2 HEND HB9' HL9 n0 n1
                  generalize acr N.jts[ji] ii = L at *
                  have HSTART : Hid (RI w w10 (.slice a N.pcs.length cap) (.slice (some ⟨jb, jo, none⟩) N.jts.length cap') far u7 (runR N (out, []) (candsR N (line.take j) ++ (sonsR N (((kq : Int), ca, t2), l)).take 0)).1 (.slice (some ⟨g, 0, none⟩) line.length cl) line u10 (runR N (out, []) (candsR N (line.take j) ++ (sonsR N (((kq : Int), ca, t2), l)).take 0)).2) := by
                    rw [List.take_zero, List.append_nil]
                    exact HL10.out
                  have HKS : Hid (Keep4 bC w10 w10 u7 u10) := Keep4.start HLO.out
                  clear HL10
                  go_wp2_with fail
                  go_loopw [7, 10, 16, 17, 18, 19, 21, 22, 24, 83] (fun s7 s10 _ _ _ _ _ _ _ ix wi => ∃ (i : Nat), i ≤ L.length ∧ ix = .int .i64 i ∧ Hid (RI w wi (.slice a N.pcs.length cap) (.slice (some ⟨jb, jo, none⟩) N.jts.length cap') far s7 (runR N (out, []) (candsR N (line.take j) ++ (sonsR N (((kq : Int), ca, t2), l)).take i)).1 (.slice (some ⟨g, 0, none⟩) line.length cl) line s10 (runR N (out, []) (candsR N (line.take j) ++ (sonsR N (((kq : Int), ca, t2), l)).take i)).2) ∧ Hid (Keep4 bC w10 wi s7 s10)) (fun _ _ _ _ _ _ _ _ _ ix _ => L.length - (intOf ix).toNat)
                  case atStart => exact ⟨0, Nat.zero_le _, rfl, HSTART, HKS⟩
                  case round =>
                    obtain ⟨i, hi, rfl, HL3, HK3⟩ := hrel
                    rename World => wi
                    clear HSTART HKS HLO
                    by_cases hilt : i < L.length
                    · obtain ⟨zb, hzb, rfl⟩ := HROW.out.resolve_left (by omega)
                      have hzM : ∀ b o, (some ⟨zb, 0, none⟩ : Option Addr) = some ⟨b, o, none⟩ → bC ≤ b := fun b o e => by
                        obtain ⟨h1, _⟩ : zb = b ∧ 0 = o := by simpa using e
                        omega
                      obtain ⟨zb', zo', hzz, e0, e1⟩ := (HK3.out.ends hzM HEA.out) i hilt
                      obtain ⟨rfl, rfl⟩ : zb = zb' ∧ 0 = zo' := by simpa using hzz
                      simp only [Nat.zero_add] at e0 e1
                      have hii : (i : Int) < (L.length : Int) := by omega
                      have HTK2 := hide (HTK.out i hilt)
                      have hEO := HEO.out L[i] (List.getElem_mem hilt)
                      have hxk := HSO.out _ (HMS.out L[i] (List.getElem_mem hilt))
                      replace y0 := HK3.out.cell (Nat.le_refl _) y0
                      replace y1 := HK3.out.cell (Nat.le_refl _) y1
                      replace y2 := HK3.out.cell (Nat.le_refl _) y2
                      replace y3 := HK3.out.cell (Nat.le_refl _) y3
                      clear hzz
                      generalize L[i] = ee at *
                      obtain ⟨ep, sd⟩ := ee
                      dsimp only at e0 e1 hEO
                      have hep : 0 ≤ ep ∧ ep < N.pcs.length ∧ 0 ≤ sd ∧ sd ≤ 1 := by
                        have h := hEO
                        simp only [endOk, inR, Bool.and_eq_true, decide_eq_true_eq] at h
                        omega
                      obtain ⟨ek, rfl⟩ := Int.eq_ofNat_of_zero_le hep.1
                      have hek : ek < N.pcs.length := by omega
                      obtain ⟨p1, p2, p3, hEN⟩ : ∃ p1 p2 p3, enterP N (ek, sd) = (p1, p2, p3) := ⟨_, _, _, rfl⟩
                      rw [hEN] at HTK2 hxk
                      have HEN := hide hEN
                      have HXK := hide hxk
                      have hzl := cell_lt e0
                      have hA12 := bS (w := wi) (.cells #[.int .i64 ek, .int .i64 sd] 92)
                      have q0 := new_cell wi #[.int .i64 ek, .int .i64 sd] 92 0 (.int .i64 ek) rfl
                      have q1 := new_cell wi #[.int .i64 ek, .int .i64 sd] 92 1 (.int .i64 sd) rfl
                      have HF12 := hide (HL3.out.later hA12)
                      have HK12 := hide (HK3.out.below hA12)
                      replace y0 := cell_later' hA12 y0
                      replace y1 := cell_later' hA12 y1
                      replace y2 := cell_later' hA12 y2
                      replace y3 := cell_later' hA12 y3
                      clear hEN hEO hA12 hxk HL3 HK3
                      go_upto_region 19 with fail
                      clear e0 e1
                      generalize wi.alloc (.cells #[.int .i64 ek, .int .i64 sd] 92) = w12 at *
                      generalize wi.heap.size = bE at *
                      have n0 := HF12.out.n0
                      have n1 := HF12.out.n1
                      have h12 : Below w12.heap.size w12 w12.drew := (Below.refl _ _).drew
                      have hn12 := cell_lt n0
                      have hy12 := cell_lt y0
                      have hq12 := cell_lt q0
                      have hwr : IntKind.i64.wrap (far - l + roomP N kq ca t2) = far - l + roomP N kq ca t2 := by
                        rw [IntKind.wrap_i64]
                        omega
                      go_cut [17, 83] from 83 to 168 (fun s17 s83 wz => s83 = .int .i64 i ∧ ∃ bX, s17 = .pointer (some ⟨bX, 0, none⟩) ∧ Hid (XB w12 wz bX p1 p2 p3 (far - l + roomP N kq ca t2) (.slice none 0 0) []) ∧ wz.frozen? ⟨bX, 1, none⟩ = false)
                      case first =>
                        have HF12B := hide HF12.out.below
                        have HPS := hide (fun wx (h : S13 w12 wx w.heap.size bC bE (.slice a N.pcs.length cap) (.slice (some ⟨jb, jo, none⟩) N.jts.length cap') kq ca t2 (far - l) ek sd) => HP.out.later (HF12.out.below.trans ((held13 h).mono HF12.out.below.size)))
                        have HS13 : Hid (S13 w12 w12 w.heap.size bC bE (.slice a N.pcs.length cap) (.slice (some ⟨jb, jo, none⟩) N.jts.length cap') kq ca t2 (far - l) ek sd) := ⟨⟨n0, n1, y0, y1, y2, y3, q0, q1⟩, Below.refl _ _⟩
                        have HK1 := hide (keep13 (bDr w12) HS13.out)
                        have HK2 := hide (keep13 (bSd w12 (.cells #[.int .i64 0, .int .i64 0, .int .i64 0, .int .i64 0, .slice none 0 0] 87)) HS13.out)
                        clear n0 n1 y0 y1 y2 y3 q0 q1 HCS HROW HEA HTK2 HTK HTA HMS HXK HK12 HSO HGO HNX HE HRE h12
                        go_region_held3 (fun wx => S13 w12 wx w.heap.size bC bE (.slice a N.pcs.length cap) (.slice (some ⟨jb, jo, none⟩) N.jts.length cap') kq ca t2 (far - l) ek sd)
                          (first
                            | (with_reducible exact HK1.out)
                            | (with_reducible exact HK2.out)
                            | (with_reducible exact HGT.out)
                            | (with_reducible exact HGTa.out)
                            | (with_reducible exact HGTf.out)
                            | (with_reducible exact HGTp.out)
                            | (with_reducible exact HGS.out)
                            | (with_reducible exact HGSa.out))
                          (first
                            | (go_at_call 40; refine (l3enter_at _ _ N _ _ ek sd _ HEN.out hek (HPS.out _ (by assumption))).mono ?_; rintro e wS ⟨rfl, hbS⟩; have HGS : Hid (S13 w12 wS w.heap.size bC bE (.slice a N.pcs.length cap) (.slice (some ⟨jb, jo, none⟩) N.jts.length cap') kq ca t2 (far - l) ek sd) := keep13 hbS (by assumption); have HGSa := hide (keep13 (bS (w := wS) (.cells #[.int .i64 0, .int .i64 0, .int .i64 0, .int .i64 0, .slice none 0 0] 87)) HGS.out); have sS : w12.heap.size ≤ wS.heap.size := (held13 HGS.out).size; (first | (with_reducible (have hC : Below w12.drew.heap.size w12.drew wS := hbS)) | (have HZS : Hid (Zero5 wS w12.heap.size) := zero5_of hbS)); clear hbS)
                            | (go_at_call 36; refine (l3room_any _ _ N _ _ kq ca t2 _ hkq (by omega) (by omega) (HPS.out _ (by assumption))).mono ?_; rintro e wT ⟨rfl, hbT⟩; have HGT : Hid (S13 w12 wT w.heap.size bC bE (.slice a N.pcs.length cap) (.slice (some ⟨jb, jo, none⟩) N.jts.length cap') kq ca t2 (far - l) ek sd) := keep13 hbT (by assumption); have HGTa := hide (keep13 (bS (w := wT) (.cells #[.int .i64 0, .int .i64 0, .int .i64 0, .int .i64 0, .slice none 0 0] 87)) HGT.out); have HGTf := hide (keep13 (bS (w := wT) (.cells #[.int .i64 p1, .int .i64 p2, .int .i64 p3, .int .i64 (far - l + roomP N kq ca t2), .slice none 0 0] 87)) HGT.out); have sT : w12.heap.size ≤ wT.heap.size := (held13 HGT.out).size; (first | ((with_reducible (have hD : Below wS.heap.size wS wT := hbT)); (first | (have HZT := hide (HZS.out.later hbT); have HGTp := hide (put13 (b := w12.heap.size) (by omega) hn12 hy12 hq12 HGT.out (.int .i64 p1) (.int .i64 p2) (.int .i64 p3) (.int .i64 (far - l + roomP N kq ca t2)) (.slice none 0 0)); obtain ⟨⟨a0, a1, a2, a3, a4⟩, fz⟩ := HZT.out; have f0 := fz 0; have f1 := fz 1; have f2 := fz 2; have f3 := fz 3; have f4 := fz 4; have hal0 := cell_lt a0; clear fz) | skip)) | (have HZT : Hid (Zero5 wT wS.heap.size) := zero5_of' hbT; have HGTp := hide (put13 (b := wS.heap.size) (by omega) hn12 hy12 hq12 HGT.out (.int .i64 p1) (.int .i64 p2) (.int .i64 p3) (.int .i64 (far - l + roomP N kq ca t2)) (.slice none 0 0)); obtain ⟨⟨a0, a1, a2, a3, a4⟩, fz⟩ := HZT.out; have f0 := fz 0; have f1 := fz 1; have f2 := fz 2; have f3 := fz 3; have f4 := fz 4; have hal0 := cell_lt a0; clear fz)); clear hbT))
                        all_goals
                          first
                            | (have HXB := hide (XB.fill (held13 HGT.out) (by omega) HZT.out p1 p2 p3 (far - l + roomP N kq ca t2)); have hfz := HZT.out.2 1; go_wp2_with fail; go_meet; (case rel => exact ⟨rfl, _, rfl, HXB, by simp only [World.frozen?_setCell]; exact hfz⟩))
                            | (have HXB : Hid (XB w12 (wT.alloc (.cells #[.int .i64 p1, .int .i64 p2, .int .i64 p3, .int .i64 (far - l + roomP N kq ca t2), .slice none 0 0] 87)) wT.heap.size p1 p2 p3 (far - l + roomP N kq ca t2) (.slice none 0 0) []) := ⟨(held13 HGT.out).alloc sT _, sT, new_cell wT _ _ 0 _ rfl, new_cell wT _ _ 1 _ rfl, new_cell wT _ _ 2 _ rfl, new_cell wT _ _ 3 _ rfl, new_cell wT _ _ 4 _ rfl, by simp [go_sem], World.ownsRow_nil _ _ _ _⟩; go_wp2_with fail; go_meet; (case rel => exact ⟨rfl, _, rfl, HXB, by simp [go_sem]⟩))
                      case rest =>
                        obtain ⟨rfl, bX, rfl, HXB, hf1⟩ := hcut
                        rename World => w13
                        have hp1 : p1 = (ek : Int) := by
                          have h := enter_step (N := N) (e := ((ek : Int), sd))
                          rw [HEN.out] at h
                          unfold stepOf at h
                          exact (Prod.mk.inj h).1
                        subst hp1
                        have hsx := spot_facts HXK.out.1.spot
                        have hlx := HXK.out.1.left
                        have hlp := HXK.out.2
                        dsimp only at hsx hlx hlp
                        have hlenx := lenAt_pos HR.out ek (by omega) (by omega)
                        have HLX := hide (lenAt_nat N ek hek)
                        rw [HLX.out] at hsx hlenx
                        have hrx : 0 ≤ roomP N ek p2 p3 ∧ roomP N ek p2 p3 ≤ 10000000 := by
                          unfold roomP
                          rw [HLX.out]
                          split <;> omega
                        have hsw3 := hsx.2.2.1
                        have hXlo := HXB.out.lo
                        have hKs := HK12.out.size
                        have hno7 : u7.ownBlock ≠ some bX := fun e => by have := (HF12.out.oo.lt bX e).2; omega
                        have hno8 : (Value.slice (some ⟨g, 0, none⟩) line.length cl).ownBlock ≠ some bX := fun e => by have := (HF12.out.ol.lt bX e).2; omega
                        have hno10 : u10.ownBlock ≠ some bX := fun e => by have := (HF12.out.on.lt bX e).2; omega
                        have HNO := hide (And.intro hno7 (And.intro hno8 hno10))
                        have HSN := hide (show runR N (out, []) (candsR N (line.take j) ++ (sonsR N (((kq : Int), ca, t2), l)).take (i + 1)) = stepR N (runR N (out, []) (candsR N (line.take j) ++ (sonsR N (((kq : Int), ca, t2), l)).take i)) (((ek : Int), p2, p3), l - roomP N kq ca t2) by
                          rw [HTK2.out, ← List.append_assoc, runR_snoc]
                          rfl)
                        have hr1 := runR_len1 N (candsR N (line.take j) ++ (sonsR N (((kq : Int), ca, t2), l)).take i) (out, [])
                        have hr2 := runR_len N (candsR N (line.take j) ++ (sonsR N (((kq : Int), ca, t2), l)).take i) (out, [])
                        have hxl : (candsR N (line.take j) ++ (sonsR N (((kq : Int), ca, t2), l)).take i).length ≤ 2 * line.length + 2 := by
                          rw [List.length_append, List.length_take]
                          omega
                        have HF13 := hide (HF12.out.later HXB.out.below)
                        have HK13 := hide (HK12.out.below HXB.out.below)
                        generalize runR N (out, []) (candsR N (line.take j) ++ (sonsR N (((kq : Int), ca, t2), l)).take i) = st at HSN hr1 hr2 HF13
                        obtain ⟨o2, n2⟩ := st
                        dsimp only [List.length_nil] at hr1 hr2
                        have ho2 : o2.length ≤ 3000 := by omega
                        have hn2 : n2.length ≤ 3000 := by omega
                        clear hr1 hr2 hxl hno7 hno8 hno10 HF12 HK12 HTK2 n0 n1 y0 y1 y2 y3 q0 q1 hn12 hy12 hq12
                        have n0 := HF13.out.n0
                        have n1 := HF13.out.n1
                        have hn13 := cell_lt n0
                        have x0 := HXB.out.c0
                        have x1 := HXB.out.c1
                        have x2 := HXB.out.c2
                        have x3 := HXB.out.c3
                        have x4 := HXB.out.c4
                        have hx13 := cell_lt x0
                        have hwl : IntKind.i64.wrap (far - (far - l + roomP N kq ca t2)) = l - roomP N kq ca t2 := by
                          rw [IntKind.wrap_i64]
                          omega
                        clear h12 HXB
                        go_wp2_with fail
                        refine (l3room_any _ _ N _ _ ek p2 p3 _ hek (by omega) (by omega) (HP.out.later HF13.out.below)).mono ?_
                        rintro e w14 ⟨rfl, hb14⟩
                        have HF14 := hide (HF13.out.later hb14)
                        have HK14 := hide (HK13.out.below hb14)
                        replace x0 := cell_later' hb14 x0
                        replace x1 := cell_later' hb14 x1
                        replace x2 := cell_later' hb14 x2
                        replace x3 := cell_later' hb14 x3
                        replace x4 := cell_later' hb14 x4
                        replace hf1 : w14.frozen? ⟨bX, 1, none⟩ = false := by rw [hb14.frozen (p := ⟨bX, 1, none⟩) hx13]; exact hf1
                        have hx14 := cell_lt x0
                        clear hb14 HF13 HK13 n0 n1
                        by_cases he : l - roomP N kq ca t2 ≤ roomP N ek p2 p3
                        · have qe : decide (roomP N ek p2 p3 ≥ l - roomP N kq ca t2) = true := decide_eq_true he
                          have HEN1 := hide (show endsR N (((ek : Int), p2, p3), l - roomP N kq ca t2) = true from decide_eq_true he)
                          have HSE := hide (show runR N (out, []) (candsR N (line.take j) ++ (sonsR N (((kq : Int), ca, t2), l)).take (i + 1)) = (addO o2 ((ek : Int), p2 + (l - roomP N kq ca t2) * p3, p3), n2) by rw [HSN.out, step_end HEN1.out]; rfl)
                          have hwr1 : IntKind.i64.wrap ((l - roomP N kq ca t2) * p3) = (l - roomP N kq ca t2) * p3 := by
                            rw [IntKind.wrap_i64]
                            rcases hsw3 with rfl | rfl <;> omega
                          have hwr2 : IntKind.i64.wrap (p2 + (l - roomP N kq ca t2) * p3) = p2 + (l - roomP N kq ca t2) * p3 := by
                            rw [IntKind.wrap_i64]
                            rcases hsw3 with rfl | rfl <;> omega
                          clear he HSN
                          generalize hT1 : p2 + (l - roomP N kq ca t2) * p3 = T1 at *
                          have HF15 := hide (HF14.out.off (bX := bX) (o := 1) (by omega) HNO.out.1 HNO.out.2.1 HNO.out.2.2 (.int .i64 T1))
                          have HK15 := hide (HK14.out.off9 (bX := bX) (o := 1) (by omega) (.int .i64 T1))
                          have z0 : (w14.setCell ⟨bX, 1, none⟩ (.int .i64 T1)).cell? ⟨bX, 0, none⟩ = some (.int .i64 ek) := (World.cell?_setCell_other _ _ _ _ (by simp)).trans x0
                          have z1 : (w14.setCell ⟨bX, 1, none⟩ (.int .i64 T1)).cell? ⟨bX, 1, none⟩ = some (.int .i64 T1) := World.cell?_setCell_same _ _ _ x1
                          have z2 : (w14.setCell ⟨bX, 1, none⟩ (.int .i64 T1)).cell? ⟨bX, 2, none⟩ = some (.int .i64 p3) := (World.cell?_setCell_other _ _ _ _ (by simp)).trans x2
                          obtain ⟨zo2, co2, rfl⟩ := sps_form HF15.out.oo
                          go_wp2_with fail
                          clear x0 x1 x2 x3 x4 hf1 HF14 HK14
                          generalize w14.setCell ⟨bX, 1, none⟩ (.int .i64 T1) = w15 at *
                          go_loopw [19, 21, 121] (fun mt _ ix wv => ∃ (p : Nat) (b : Bool), p ≤ o2.length ∧ ix = .int .i64 p ∧ mt = .bool b ∧ Hid (b = (o2.take p).any (fun e => e == ((ek : Int), T1, p3))) ∧ Hid (Below w15.heap.size w15 wv)) (fun _ _ ix _ => o2.length - (intOf ix).toNat)
                          case atStart => exact ⟨0, false, Nat.zero_le _, rfl, rfl, (by show false = (o2.take 0).any _; simp), Below.refl _ _⟩
                          case round =>
                            obtain ⟨p, b, hp, rfl, rfl, HBB, HBI⟩ := hrel
                            rename World => w16
                            replace z0 := cell_later' HBI.out z0
                            replace z1 := cell_later' HBI.out z1
                            replace z2 := cell_later' HBI.out z2
                            have hz16 := cell_lt z0
                            by_cases hpl : p < o2.length
                            · obtain ⟨gq, rfl, e0, e1, e2⟩ := sps_rd (owns_later' HF15.out.oo HBI.out) hpl
                              have hpi : (p : Int) < (o2.length : Int) := by omega
                              have hgq := cell_lt e0
                              have hTS := any_snoc hpl (fun e => e == ((ek : Int), T1, p3))
                              obtain ⟨c0, c1, c2, hcd⟩ : ∃ c0 c1 c2, o2[p] = (c0, c1, c2) := ⟨_, _, _, rfl⟩
                              rw [hcd] at e0 e1 e2 hTS
                              have HTS := hide hTS
                              have HA := hide (HBI.out.alloc HBI.out.size (.cells #[.int .i64 c0, .int .i64 c1, .int .i64 c2] 29))
                              dsimp only at e0 e1 e2
                              clear hcd hTS
                              cases b
                              · by_cases h1 : c0 = (ek : Int)
                                · have g1 : (c0 == (ek : Int)) = true := by rw [beq_iff_eq]; exact h1
                                  by_cases h2 : c1 = T1
                                  · have g2 : (c1 == T1) = true := by rw [beq_iff_eq]; exact h2
                                    by_cases h3 : c2 = p3
                                    · have g3 : (c2 == p3) = true := by rw [beq_iff_eq]; exact h3
                                      have HY : Hid (true = (o2.take (p + 1)).any (fun e => e == ((ek : Int), T1, p3))) := by show _ = _; rw [HTS.out, h1, h2, h3]; simp
                                      clear h1 h2 h3
                                      go_wp2_with fail
                                      go_roundw
                                      case rel => exact ⟨p + 1, true, by omega, by go_num, rfl, HY, HA⟩
                                      case measure => simp [intOf]; omega
                                    · have g3 : (c2 == p3) = false := by rw [beq_eq_false_iff_ne]; exact h3
                                      have HY : Hid (false = (o2.take (p + 1)).any (fun e => e == ((ek : Int), T1, p3))) := by show _ = _; rw [HTS.out, ← HBB.out]; simp [h3]
                                      clear h1 h2 h3
                                      go_wp2_with fail
                                      go_roundw
                                      case rel => exact ⟨p + 1, false, by omega, by go_num, rfl, HY, HA⟩
                                      case measure => simp [intOf]; omega
                                  · have g2 : (c1 == T1) = false := by rw [beq_eq_false_iff_ne]; exact h2
                                    have HY : Hid (false = (o2.take (p + 1)).any (fun e => e == ((ek : Int), T1, p3))) := by show _ = _; rw [HTS.out, ← HBB.out]; simp [h2]
                                    clear h1 h2
                                    go_wp2_with fail
                                    go_roundw
                                    case rel => exact ⟨p + 1, false, by omega, by go_num, rfl, HY, HA⟩
                                    case measure => simp [intOf]; omega
                                · have g1 : (c0 == (ek : Int)) = false := by rw [beq_eq_false_iff_ne]; exact h1
                                  have HY : Hid (false = (o2.take (p + 1)).any (fun e => e == ((ek : Int), T1, p3))) := by show _ = _; rw [HTS.out, ← HBB.out]; simp [h1]
                                  clear h1
                                  go_wp2_with fail
                                  go_roundw
                                  case rel => exact ⟨p + 1, false, by omega, by go_num, rfl, HY, HA⟩
                                  case measure => simp [intOf]; omega
                              · have HY : Hid (true = (o2.take (p + 1)).any (fun e => e == ((ek : Int), T1, p3))) := by show _ = _; rw [HTS.out, ← HBB.out]; rfl
                                go_wp2_with fail
                                go_roundw
                                case rel => exact ⟨p + 1, true, by omega, by go_num, rfl, HY, HA⟩
                                case measure => simp [intOf]; omega
                            · obtain rfl : p = o2.length := by omega
                              have hBB := HBB.out
                              rw [List.take_length] at hBB
                              have HF16 := hide (HF15.out.later HBI.out)
                              have HK16 := hide (HK15.out.below HBI.out)
                              have HB2 := hide hBB
                              clear hBB HBB HF15 HK15 HBI
                              cases b
                              · have HNEW0 := hide (addO_new (any_not HB2.out))
                                have hml : o2.length + 1 ≤ maxLen := by unfold maxLen; omega
                                go_wp2_with (first
                                  | (at_builtin; (refine wpList_append_lies _ rfl _ _ _ rfl (w.heap.size + 2) 29 iS _ 3 24 Tryz.underlying32 HIS.out HS0.out HS1.out HS2.out rfl (by omega) (.slice zo2 o2.length co2) o2.length (partCells o2) rfl (HF16.out.oo.alloc _) ⟨_, 0, none⟩ 1 1 [.int .i64 ek, .int .i64 T1, .int .i64 p3] rfl rfl (news_at rfl) (by simp [Value.oneCell']) (by omega) hml (by omega) (by simp; omega) _ rfl ?_); intro g2 cp2 w17 hown2 hgrow2 hgg _; have HO7 := hide hown2; have HG7 := hide hgrow2; have HGG := hide hgg; clear hgg))
                                all_goals
                                  have HFA := hide ((HF16.out.later (bS (.cells #[.int .i64 ek, .int .i64 T1, .int .i64 p3] 29))).appOut HG7.out (s := ((ek : Int), T1, p3)) HO7.out)
                                  have HNEW : Hid (RI w w17 (.slice a N.pcs.length cap) (.slice (some ⟨jb, jo, none⟩) N.jts.length cap') far (.slice (some ⟨g2, 0, none⟩) (o2.length + 1) cp2) (runR N (out, []) (candsR N (line.take j) ++ (sonsR N (((kq : Int), ca, t2), l)).take (i + 1))).1 (.slice (some ⟨g, 0, none⟩) line.length cl) line u10 (runR N (out, []) (candsR N (line.take j) ++ (sonsR N (((kq : Int), ca, t2), l)).take (i + 1))).2) := by
                                    show RI _ _ _ _ _ _ _ _ _ _ _
                                    rw [HSE.out]
                                    dsimp only
                                    rw [HNEW0.out]
                                    exact HFA.out
                                  have HKN := hide ((HK16.out.below (bS _)).appO HG7.out (ov' := .slice (some ⟨g2, 0, none⟩) (o2.length + 1) cp2) (fun g e => by
                                    have e' : g2 = g := by simpa [Value.ownBlock] using e
                                    subst e'
                                    rcases HGG.out with h | h
                                    · exact .inl h
                                    · exact .inr (by omega)))
                                  go_roundw
                                  case rel => exact ⟨i + 1, by omega, by go_num, HNEW, HKN⟩
                                  case measure => simp [intOf]; omega
                              · have HNEW : Hid (RI w w16 (.slice a N.pcs.length cap) (.slice (some ⟨jb, jo, none⟩) N.jts.length cap') far (.slice zo2 o2.length co2) (runR N (out, []) (candsR N (line.take j) ++ (sonsR N (((kq : Int), ca, t2), l)).take (i + 1))).1 (.slice (some ⟨g, 0, none⟩) line.length cl) line u10 (runR N (out, []) (candsR N (line.take j) ++ (sonsR N (((kq : Int), ca, t2), l)).take (i + 1))).2) := by
                                  show RI _ _ _ _ _ _ _ _ _ _ _
                                  rw [HSE.out]
                                  dsimp only
                                  rw [addO_in (any_mem HB2.out)]
                                  exact HF16.out
                                go_wp2_with fail
                                go_roundw
                                case rel => exact ⟨i + 1, by omega, by go_num, HNEW, HK16⟩
                                case measure => simp [intOf]; omega
                        · have qe : decide (roomP N ek p2 p3 ≥ l - roomP N kq ca t2) = false := decide_eq_false he
                          have HEN1 := hide (show endsR N (((ek : Int), p2, p3), l - roomP N kq ca t2) = false from decide_eq_false he)
                          have HSE := hide (show runR N (out, []) (candsR N (line.take j) ++ (sonsR N (((kq : Int), ca, t2), l)).take (i + 1)) = (o2, addO n2 (((ek : Int), p2, p3), l - roomP N kq ca t2)) by rw [HSN.out, step_go HEN1.out])
                          clear he HSN
                          obtain ⟨zo2, co2, rfl⟩ := lcs_form HF14.out.on
                          go_wp2_with fail
                          clear hf1
                          go_loopw [22, 24, 142] (fun mt _ ix wv => ∃ (p : Nat) (b : Bool), p ≤ n2.length ∧ ix = .int .i64 p ∧ mt = .bool b ∧ Hid (b = (n2.take p).any (fun e => e == (((ek : Int), p2, p3), l - roomP N kq ca t2))) ∧ Hid (Below w14.heap.size w14 wv)) (fun _ _ ix _ => n2.length - (intOf ix).toNat)
                          case atStart => exact ⟨0, false, Nat.zero_le _, rfl, rfl, (by show false = (n2.take 0).any _; simp), Below.refl _ _⟩
                          case round =>
                            obtain ⟨p, b, hp, rfl, rfl, HBB, HBI⟩ := hrel
                            rename World => w16
                            replace x0 := cell_later' HBI.out x0
                            replace x1 := cell_later' HBI.out x1
                            replace x2 := cell_later' HBI.out x2
                            replace x3 := cell_later' HBI.out x3
                            replace x4 := cell_later' HBI.out x4
                            have hz16 := cell_lt x0
                            by_cases hpl : p < n2.length
                            · obtain ⟨gq, rfl, e0, e1, e2, e3, e4⟩ := lcs_rd (owns_later' HF14.out.on HBI.out) hpl
                              have hpi : (p : Int) < (n2.length : Int) := by omega
                              have hgq := cell_lt e0
                              have hTS := any_snoc hpl (fun e => e == (((ek : Int), p2, p3), l - roomP N kq ca t2))
                              obtain ⟨c0, c1, c2, d, hcd⟩ : ∃ c0 c1 c2 d, n2[p] = ((c0, c1, c2), d) := ⟨_, _, _, _, rfl⟩
                              rw [hcd] at e0 e1 e2 e3 hTS
                              have HTS := hide hTS
                              have HA := hide (HBI.out.alloc HBI.out.size (.cells #[.int .i64 c0, .int .i64 c1, .int .i64 c2, .int .i64 (far - d), .slice none 0 0] 87))
                              dsimp only at e0 e1 e2 e3
                              clear hcd hTS
                              cases b
                              · by_cases h1 : c0 = (ek : Int)
                                · have g1 : (c0 == (ek : Int)) = true := by rw [beq_iff_eq]; exact h1
                                  by_cases h2 : c1 = p2
                                  · have g2 : (c1 == p2) = true := by rw [beq_iff_eq]; exact h2
                                    by_cases h3 : c2 = p3
                                    · have g3 : (c2 == p3) = true := by rw [beq_iff_eq]; exact h3
                                      by_cases h4 : d = l - roomP N kq ca t2
                                      · have g4 : (far - d == far - l + roomP N kq ca t2) = true := by rw [beq_iff_eq]; omega
                                        have HY : Hid (true = (n2.take (p + 1)).any (fun e => e == (((ek : Int), p2, p3), l - roomP N kq ca t2))) := by show _ = _; rw [HTS.out, h1, h2, h3, h4]; simp
                                        clear h1 h2 h3 h4
                                        go_wp2_with fail
                                        go_roundw
                                        case rel => exact ⟨p + 1, true, by omega, by go_num, rfl, HY, HA⟩
                                        case measure => simp [intOf]; omega
                                      · have g4 : (far - d == far - l + roomP N kq ca t2) = false := by rw [beq_eq_false_iff_ne]; omega
                                        have HY : Hid (false = (n2.take (p + 1)).any (fun e => e == (((ek : Int), p2, p3), l - roomP N kq ca t2))) := by show _ = _; rw [HTS.out, ← HBB.out]; simp [h4]
                                        clear h1 h2 h3 h4
                                        go_wp2_with fail
                                        go_roundw
                                        case rel => exact ⟨p + 1, false, by omega, by go_num, rfl, HY, HA⟩
                                        case measure => simp [intOf]; omega
                                    · have g3 : (c2 == p3) = false := by rw [beq_eq_false_iff_ne]; exact h3
                                      have HY : Hid (false = (n2.take (p + 1)).any (fun e => e == (((ek : Int), p2, p3), l - roomP N kq ca t2))) := by show _ = _; rw [HTS.out, ← HBB.out]; simp [h3]
                                      clear h1 h2 h3
                                      go_wp2_with fail
                                      go_roundw
                                      case rel => exact ⟨p + 1, false, by omega, by go_num, rfl, HY, HA⟩
                                      case measure => simp [intOf]; omega
                                  · have g2 : (c1 == p2) = false := by rw [beq_eq_false_iff_ne]; exact h2
                                    have HY : Hid (false = (n2.take (p + 1)).any (fun e => e == (((ek : Int), p2, p3), l - roomP N kq ca t2))) := by show _ = _; rw [HTS.out, ← HBB.out]; simp [h2]
                                    clear h1 h2
                                    go_wp2_with fail
                                    go_roundw
                                    case rel => exact ⟨p + 1, false, by omega, by go_num, rfl, HY, HA⟩
                                    case measure => simp [intOf]; omega
                                · have g1 : (c0 == (ek : Int)) = false := by rw [beq_eq_false_iff_ne]; exact h1
                                  have HY : Hid (false = (n2.take (p + 1)).any (fun e => e == (((ek : Int), p2, p3), l - roomP N kq ca t2))) := by show _ = _; rw [HTS.out, ← HBB.out]; simp [h1]
                                  clear h1
                                  go_wp2_with fail
                                  go_roundw
                                  case rel => exact ⟨p + 1, false, by omega, by go_num, rfl, HY, HA⟩
                                  case measure => simp [intOf]; omega
                              · have HY : Hid (true = (n2.take (p + 1)).any (fun e => e == (((ek : Int), p2, p3), l - roomP N kq ca t2))) := by show _ = _; rw [HTS.out, ← HBB.out]; rfl
                                go_wp2_with fail
                                go_roundw
                                case rel => exact ⟨p + 1, true, by omega, by go_num, rfl, HY, HA⟩
                                case measure => simp [intOf]; omega
                            · obtain rfl : p = n2.length := by omega
                              have hBB := HBB.out
                              rw [List.take_length] at hBB
                              have HF16 := hide (HF14.out.later HBI.out)
                              have HK16 := hide (HK14.out.below HBI.out)
                              have HB2 := hide hBB
                              clear hBB HBB HF14 HK14 HBI
                              cases b
                              · have HNEW0 := hide (addO_new (any_not HB2.out))
                                have hml : n2.length + 1 ≤ maxLen := by unfold maxLen; omega
                                go_wp2_with (first
                                  | (at_builtin; (refine wpList_append_lies _ rfl _ _ _ rfl (w.heap.size + 2) 87 iC _ 5 56 Tryz.underlying88 HIC.out HC0.out HC1.out HC2.out rfl (by omega) (.slice zo2 n2.length co2) n2.length (lcCells far n2) rfl (HF16.out.on.alloc _) ⟨_, 0, none⟩ 1 1 [.int .i64 ek, .int .i64 p2, .int .i64 p3, .int .i64 (far - l + roomP N kq ca t2), .slice none 0 0] rfl rfl (news_at rfl) (by simp [Value.oneCell']) (by omega) hml (by omega) (by simp; omega) _ rfl ?_); intro g2 cp2 w17 hown2 hgrow2 hgg _; have HO7 := hide hown2; have HG7 := hide hgrow2; have HGG := hide hgg; clear hgg))
                                all_goals
                                  have HFA := hide ((HF16.out.later (bS (.cells #[.int .i64 ek, .int .i64 p2, .int .i64 p3, .int .i64 (far - l + roomP N kq ca t2), .slice none 0 0] 87))).appNext HG7.out (x := (((ek : Int), p2, p3), l - roomP N kq ca t2)) (by
                                    have e : lc5 far (((ek : Int), p2, p3), l - roomP N kq ca t2) = [.int .i64 ek, .int .i64 p2, .int .i64 p3, .int .i64 (far - l + roomP N kq ca t2), .slice none 0 0] := by
                                      unfold lc5
                                      dsimp only
                                      rw [show far - (l - roomP N kq ca t2) = far - l + roomP N kq ca t2 by omega]
                                    rw [e]
                                    exact HO7.out) (HGG.out.imp id (fun h => by omega)))
                                  have HNEW : Hid (RI w w17 (.slice a N.pcs.length cap) (.slice (some ⟨jb, jo, none⟩) N.jts.length cap') far u7 (runR N (out, []) (candsR N (line.take j) ++ (sonsR N (((kq : Int), ca, t2), l)).take (i + 1))).1 (.slice (some ⟨g, 0, none⟩) line.length cl) line (.slice (some ⟨g2, 0, none⟩) (n2.length + 1) cp2) (runR N (out, []) (candsR N (line.take j) ++ (sonsR N (((kq : Int), ca, t2), l)).take (i + 1))).2) := by
                                    show RI _ _ _ _ _ _ _ _ _ _ _
                                    rw [HSE.out]
                                    dsimp only
                                    rw [HNEW0.out]
                                    exact HFA.out
                                  have HKN := hide ((HK16.out.below (bS _)).appN HG7.out (nv' := .slice (some ⟨g2, 0, none⟩) (n2.length + 1) cp2) (fun g e => by
                                    have e' : g2 = g := by simpa [Value.ownBlock] using e
                                    subst e'
                                    rcases HGG.out with h | h
                                    · exact .inl h
                                    · exact .inr (by omega)))
                                  go_roundw
                                  case rel => exact ⟨i + 1, by omega, by go_num, HNEW, HKN⟩
                                  case measure => simp [intOf]; omega
                              · have HNEW : Hid (RI w w16 (.slice a N.pcs.length cap) (.slice (some ⟨jb, jo, none⟩) N.jts.length cap') far u7 (runR N (out, []) (candsR N (line.take j) ++ (sonsR N (((kq : Int), ca, t2), l)).take (i + 1))).1 (.slice (some ⟨g, 0, none⟩) line.length cl) line (.slice zo2 n2.length co2) (runR N (out, []) (candsR N (line.take j) ++ (sonsR N (((kq : Int), ca, t2), l)).take (i + 1))).2) := by
                                  show RI _ _ _ _ _ _ _ _ _ _ _
                                  rw [HSE.out]
                                  dsimp only
                                  rw [addO_in (any_mem HB2.out)]
                                  exact HF16.out
                                go_wp2_with fail
                                go_roundw
                                case rel => exact ⟨i + 1, by omega, by go_num, HNEW, HK16⟩
                                case measure => simp [intOf]; omega
                    · have hie : i = L.length := by omega
                      subst hie
                      have HNEW : Hid (∃ st, st = runR N (out, []) (candsR N (line.take (j + 1))) ∧ RI w wi (.slice a N.pcs.length cap) (.slice (some ⟨jb, jo, none⟩) N.jts.length cap') far u7 st.1 (.slice (some ⟨g, 0, none⟩) line.length cl) line u10 st.2) := by
                        have h := HL3.out
                        rw [HTA.out, ← HCS.out] at h
                        exact ⟨_, rfl, h⟩
                      clear HL3
                      go_wp2_with fail
                      go_roundw
                      case rel => exact ⟨j + 1, by omega, by go_num, HNEW⟩
                      case measure => simp [intOf]; omega
              · have hje : j = line.length := by omega
                subst hje
                obtain ⟨st, hst, hRI⟩ := HST.out
                rw [List.take_length] at hst
                have hst' : st = roundR N out line := hst
                subst hst'
                have HRN := hide hRI.turn
                obtain ⟨zo2, co2, rfl⟩ := sps_form hRI.oo
                obtain ⟨z2, cl2, rfl⟩ := lcs_form hRI.on
                clear hst hRI HST
                by_cases ho : 200 < (roundR N out line).1.length
                · have q1 : decide (((roundR N out line).1.length : Int) > 200) = true := decide_eq_true (by omega)
                  have HAN := hide (HNX.out.much (standP_two.2 (.inl ho)))
                  clear ho
                  go_wp2_with fail
                  go_ret
                  refine ⟨_, rfl, ?_, HRN.out.below⟩
                  rw [HE.out, HRE.out, HAN.out]
                  exact World.ownsRow_nil _ _ _ _
                · have q1 : decide (((roundR N out line).1.length : Int) > 200) = false := decide_eq_false (by omega)
                  by_cases hl2 : 1000 < (roundR N out line).2.length
                  · have q2 : decide (((roundR N out line).2.length : Int) > 1000) = true := decide_eq_true (by omega)
                    have HAN := hide (HNX.out.much (standP_two.2 (.inr (.inl hl2))))
                    clear ho hl2
                    go_wp2_with fail
                    go_ret
                    refine ⟨_, rfl, ?_, HRN.out.below⟩
                    rw [HE.out, HRE.out, HAN.out]
                    exact World.ownsRow_nil _ _ _ _
                  · have q2 : decide (((roundR N out line).2.length : Int) > 1000) = false := decide_eq_false (by omega)
                    by_cases hn2 : num = 1000
                    · have q3 : ((num : Int) == 1000) = true := by rw [beq_iff_eq]; omega
                      have HAN := hide (HNX.out.much (standP_two.2 (.inr (.inr (by omega)))))
                      clear ho hl2 hn2
                      go_wp2_with fail
                      go_ret
                      refine ⟨_, rfl, ?_, HRN.out.below⟩
                      rw [HE.out, HRE.out, HAN.out]
                      exact World.ownsRow_nil _ _ _ _
                    · have q3 : ((num : Int) == 1000) = false := by rw [beq_eq_false_iff_ne]; omega
                      have ho' : (roundR N out line).1.length ≤ 200 := by omega
                      have hl' : (roundR N out line).2.length ≤ 1000 := by omega
                      have hn' : num + 1 ≤ 1000 := by omega
                      clear ho hl2 hn2
                      go_wp2_with fail
                      go_roundg (1001 - (num + 1))
                      case measure => omega
                      case rel => exact ⟨num + 1, _, _, rfl, by go_num, hn', ho', hl', HRN, HNX⟩
end Go.Proofs.YtijdigdcmjdooaaGreat
