/- The law FnBack's walk. Own work, written by gen_back.py. -/
import Derived.Test.YteapmddadieohaaLwTp
import Derived.Test.YteapmddadieohaaImT
import Derived.Test.YteapmddadieohaaMxAV
import Derived.Deep.CutRange
import Derived.BigRegion
namespace Go.Proofs.Yteapmddadieohaa
open Go.RowKit
set_option maxHeartbeats 8000000
set_option maxRecDepth 20000
set_option linter.unusedSimpArgs false

/-- The two boxes of FnBack. -/
abbrev BkS (w6 wx : World) (bn bs : Nat) (v0 v1 : Value) (q at' wy : Int) : Prop := (Box2 wx bn v0 v1 ∧ Box3 wx bs q at' wy) ∧ Hid (Below w6.heap.size w6 wx)
theorem keepBk {w6 w2 w3 : World} {bn bs : Nat} {v0 v1 : Value} {q at' wy : Int} (hb : Below w2.heap.size w2 w3) (h : BkS w6 w2 bn bs v0 v1 q at' wy) : BkS w6 w3 bn bs v0 v1 q at' wy :=
  ⟨⟨h.1.1.later hb, h.1.2.later hb⟩, h.2.out.trans (hb.mono h.2.out.size)⟩
theorem keepBk6 {w6 w2 : World} {bn bs b : Nat} {v0 v1 : Value} {q at' wy : Int} (h : BkS w6 w2 bn bs v0 v1 q at' wy) (hb : w6.heap.size ≤ b) (hn : bn < w6.heap.size) (hs : bs < w6.heap.size) (r : DRes) : BkS w6 (set6 w2 b r) bn bs v0 v1 q at' wy :=
  ⟨⟨⟨set6_far r h.1.1.1 (by omega), set6_far r h.1.1.2 (by omega)⟩, set6_far r h.1.2.1 (by omega), set6_far r h.1.2.2.1 (by omega), set6_far r h.1.2.2.2 (by omega)⟩, set6_below r h.2.out hb⟩
abbrev BkY (w8 wx : World) (bn bs bb b9 : Nat) (v0 v1 : Value) (q at' wy : Int) (r y : DRes) : Prop := (Box2 wx bn v0 v1 ∧ Box3 wx bs q at' wy ∧ In6 wx bb r ∧ In6 wx b9 y) ∧ Hid (Below w8.heap.size w8 wx)
theorem keepBy {w8 w2 w3 : World} {bn bs bb b9 : Nat} {v0 v1 : Value} {q at' wy : Int} {r y : DRes} (hb : Below w2.heap.size w2 w3) (h : BkY w8 w2 bn bs bb b9 v0 v1 q at' wy r y) : BkY w8 w3 bn bs bb b9 v0 v1 q at' wy r y :=
  ⟨⟨h.1.1.later hb, h.1.2.1.later hb, h.1.2.2.1.later hb, h.1.2.2.2.later hb⟩, h.2.out.trans (hb.mono h.2.out.size)⟩
abbrev BkX (w7 wx : World) (bn bs bb : Nat) (v0 v1 : Value) (q at' wy : Int) (r : DRes) : Prop := (Box2 wx bn v0 v1 ∧ Box3 wx bs q at' wy ∧ In6 wx bb r) ∧ Hid (Below w7.heap.size w7 wx)
theorem keepBx {w7 w2 w3 : World} {bn bs bb : Nat} {v0 v1 : Value} {q at' wy : Int} {r : DRes} (hb : Below w2.heap.size w2 w3) (h : BkX w7 w2 bn bs bb v0 v1 q at' wy r) : BkX w7 w3 bn bs bb v0 v1 q at' wy r :=
  ⟨⟨h.1.1.later hb, h.1.2.1.later hb, h.1.2.2.later hb⟩, h.2.out.trans (hb.mono h.2.out.size)⟩
theorem keepBx6 {w7 w2 : World} {bn bs bb b : Nat} {v0 v1 : Value} {q at' wy : Int} {r : DRes} (h : BkX w7 w2 bn bs bb v0 v1 q at' wy r) (hb : w7.heap.size ≤ b) (hn : bn < w7.heap.size) (hs : bs < w7.heap.size) (hx : bb < w7.heap.size) (y : DRes) : BkX w7 (set6 w2 b y) bn bs bb v0 v1 q at' wy r :=
  ⟨⟨⟨set6_far y h.1.1.1 (by omega), set6_far y h.1.1.2 (by omega)⟩, ⟨set6_far y h.1.2.1.1 (by omega), set6_far y h.1.2.1.2.1 (by omega), set6_far y h.1.2.1.2.2 (by omega)⟩, set6_far y h.1.2.2.1 (by omega), set6_far y h.1.2.2.2.1 (by omega), set6_far y h.1.2.2.2.2.1 (by omega), set6_far y h.1.2.2.2.2.2.1 (by omega), set6_far y h.1.2.2.2.2.2.2.1 (by omega), set6_far y h.1.2.2.2.2.2.2.2 (by omega)⟩, set6_below y h.2.out hb⟩
theorem spot_of {N : Nt} {k : Nat} {x wy : Int} (hk : k < N.pcs.length) (hw : wy = 1 ∨ wy = -1) (h0 : 0 ≤ x) (h1 : x ≤ lenAt N k) : spotP N k x wy = true := by
  simp only [spotP, inR, Bool.and_eq_true, Bool.or_eq_true, beq_iff_eq, decide_eq_true_eq]
  exact ⟨⟨⟨by omega, by omega⟩, hw⟩, h0, h1⟩

theorem fnBack_walk (a z : Option Addr) (cap zc : Nat) (code more : List Int) (w : World) (hB : Bys code) (hB' : Bys more) (hn : code.length ≤ maxLen) (hn' : more.length ≤ maxLen) (hx : BytesAt w a code) (hz : BytesAt w z more) :
    Calls Try.prog 4 #[.slice a code.length cap, .slice z more.length zc] w fun e w' => e = .returned (.bool true) ∧ Below w.heap.size w w' := by
  have HB := hide hB
  have HB' := hide hB'
  have HX := hide hx
  have HZ := hide hz
  have hcm : (code.length : Int) ≤ 9223372036854775807 := by unfold maxLen at hn; omega
  have hmm : (more.length : Int) ≤ 9223372036854775807 := by unfold maxLen at hn'; omega
  have hA := wholeP_bd hB' 3
  clear hB hB' hx hz hn hn'
  by_cases hc : (1048576 : Int) < (code.length : Int)
  · have hc1 : decide ((1048576 : Int) < (code.length : Int)) = true := by rw [decide_eq_true_iff]; exact hc
    go_enter Try.func4, Try.ntmps4
    go_wp2_with fail
    go_ret
    exact ⟨rfl, Below.refl _ _⟩
  by_cases hm : (1048576 : Int) < (more.length : Int)
  · have hc1 : decide ((1048576 : Int) < (code.length : Int)) = false := by rw [decide_eq_false_iff_not]; exact hc
    have hm1 : decide ((1048576 : Int) < (more.length : Int)) = true := by rw [decide_eq_true_iff]; exact hm
    go_enter Try.func4, Try.ntmps4
    go_wp2_with fail
    go_ret
    exact ⟨rfl, Below.refl _ _⟩
  have hc1 : decide ((1048576 : Int) < (code.length : Int)) = false := by rw [decide_eq_false_iff_not]; exact hc
  have hm1 : decide ((1048576 : Int) < (more.length : Int)) = false := by rw [decide_eq_false_iff_not]; exact hm
  have hcl : code.length ≤ 1048576 := by omega
  have hml : more.length ≤ 1048576 := by omega
  have hNB : NetBd (netOfCode code) := netP_bd code ⟨0, 0⟩
  generalize hAe : wholeP more 3 = A at hA
  have HAE := hide hAe
  clear hc hm hcm hmm hAe
  go_enter Try.func4, Try.ntmps4
  go_wp2_with fail
  refine (nets_any a cap code _ HB.out hcl HX.out).mono ?_
  rintro e w1 ⟨pa, ja, pcap, jcap, rfl, hPA, hJA, hb1⟩
  generalize netOfCode code = N at *
  have HNB := hide hNB
  have hnp := hNB.few
  have hnj := hNB.joints
  have HS9 := hide (show ∀ p ∈ N.pcs, p.name.size ≤ 1048576 from fun p hp => Nat.le_trans (hNB.names p hp) (by decide))
  have HM9 := hide (show ∀ j ∈ N.jts, j.name.size ≤ 1048576 ∧ j.ends.length ≤ 1048576 from fun j hj => ⟨Nat.le_trans (hNB.jends j hj).1 (by decide), Nat.le_trans (hNB.jends j hj).2 (by decide)⟩)
  have HP1 := hide hPA
  have HJ1 := hide hJA
  have HBW := hide hb1
  clear hPA hJA hb1 hNB
  go_wp2_with fail
  have hA2 := (Below.refl w1.heap.size w1).alloc (Nat.le_refl _) (.cells #[.slice pa N.pcs.length pcap, .slice ja N.jts.length jcap] 26)
  have n0 := new_cell w1 #[.slice pa N.pcs.length pcap, .slice ja N.jts.length jcap] 26 0 _ rfl
  have n1 := new_cell w1 #[.slice pa N.pcs.length pcap, .slice ja N.jts.length jcap] 26 1 _ rfl
  have HP2 := hide (HP1.out.later hA2)
  have HJ2 := hide (HJ1.out.later hA2)
  have HBW2 := hide (HBW.out.trans (hA2.mono HBW.out.size))
  clear hA2 HP1 HJ1 HBW
  generalize w1.alloc (.cells #[.slice pa N.pcs.length pcap, .slice ja N.jts.length jcap] 26) = w2 at *
  generalize w1.heap.size = bn at *
  refine (aSpot_any pa ja z N pcap jcap zc more _ HNB.out HB'.out hml HP2.out (HZ.out.later HBW2.out)).mono ?_
  rintro e w3 ⟨rfl, hb3⟩
  have HSP := hide (spot_drawn HNB.out more)
  generalize spotQ N more = q at *
  generalize spotA N more = at' at *
  generalize spotW N more = wy at *
  have HP3 := hide (HP2.out.later hb3)
  have HJ3 := hide (HJ2.out.later hb3)
  have HBW3 := hide (HBW2.out.trans (hb3.mono HBW2.out.size))
  have n0 := cell_later' hb3 n0
  have n1 := cell_later' hb3 n1
  have hbn := cell_lt n0
  clear hb3 HP2 HJ2 HBW2
  go_wp2_with fail
  have hA4 := (Below.refl w3.heap.size w3).alloc (Nat.le_refl _) (.cells #[.int .i64 q, .int .i64 at', .int .i64 wy] 29)
  have s0 := new_cell w3 #[.int .i64 q, .int .i64 at', .int .i64 wy] 29 0 _ rfl
  have s1 := new_cell w3 #[.int .i64 q, .int .i64 at', .int .i64 wy] 29 1 _ rfl
  have s2 := new_cell w3 #[.int .i64 q, .int .i64 at', .int .i64 wy] 29 2 _ rfl
  have HP4 := hide (HP3.out.later hA4)
  have HJ4 := hide (HJ3.out.later hA4)
  have HBW4 := hide (HBW3.out.trans (hA4.mono HBW3.out.size))
  have n0 := cell_later' hA4 n0
  have n1 := cell_later' hA4 n1
  have HB34 := hide hA4
  have HZ4 := hide (show (w3.alloc (.cells #[.int .i64 q, .int .i64 at', .int .i64 wy] 29)).heap.size = w3.heap.size + 1 by simp)
  have sf : (w3.alloc (.cells #[.int .i64 q, .int .i64 at', .int .i64 wy] 29)).frozen? ⟨w3.heap.size, 1, none⟩ = false := by simp [go_sem]
  have hw3 := HBW3.out.size
  clear hA4 HP4 HJ4 HBW3
  generalize w3.alloc (.cells #[.int .i64 q, .int .i64 at', .int .i64 wy] 29) = w4 at *
  have hz4 : w4.heap.size = w3.heap.size + 1 := HZ4.out
  refine (lies_any pa ja z N pcap jcap zc more _ HNB.out HB'.out hml (HJ3.out.later HB34.out) (HZ.out.later HBW4.out)).mono ?_
  rintro e w5 ⟨v, rfl, how, hb5⟩
  have HXL := hide (liesL_bd N more)
  have hxl : (liesL N more).length ≤ 1048576 := by rw [liesL_len]; omega
  generalize hxe : liesL N more = xs at *
  clear hxe
  have HOW5 := hide how
  have HB35 := hide (HB34.out.trans (hb5.mono (by omega)))
  have HBW5 := hide (HBW4.out.trans (hb5.mono HBW4.out.size))
  have n0 := cell_later' hb5 n0
  have n1 := cell_later' hb5 n1
  have sf := frozen_later hb5 s1 sf
  have s0 := cell_later' hb5 s0
  have s1 := cell_later' hb5 s1
  have s2 := cell_later' hb5 s2
  have hs5 := hb5.size
  have hz4' := hz4
  clear hb5 how HBW4 HB34 HZ4 hz4
  obtain ⟨z', zc', hzv, _⟩ := ints_of_owns HOW5.out
  subst hzv
  obtain ⟨k, hk⟩ : ∃ k : Nat, q = (k : Int) := by
    have h := HSP.out
    simp only [spotP, inR, Bool.and_eq_true, decide_eq_true_eq] at h
    exact Int.eq_ofNat_of_zero_le h.1.1.1
  have hkl : k < N.pcs.length := by
    have h := HSP.out
    simp only [spotP, inR, Bool.and_eq_true, decide_eq_true_eq] at h
    omega
  subst hk
  have hlen := HNB.out.len_at hkl
  have HLN := hide (lenAt_nat N k hkl)
  obtain ⟨pb, po, rfl, _, p1, _, _⟩ := (HP3.out.later HB35.out) k hkl
  rw [← HLN.out] at p1
  have hki : (k : Int) < (N.pcs.length : Int) := by omega
  have hatb : 0 ≤ at' ∧ at' ≤ lenAt N k := by
    have h := HSP.out
    simp only [spotP, inR, Bool.and_eq_true, decide_eq_true_eq] at h
    exact h.2
  have hwy := spot_way HSP.out
  have HWY := hide hwy
  generalize hL : lenAt N k = L at *
  have HL := hide hL
  have hbn5 := cell_lt n0
  have hbs5 := cell_lt s0
  have hpb5 := cell_lt p1
  have HWX := hide (show ∀ x ∈ xs, (Lit.int .i64 x).wf = true from fun x hx => by have := HXL.out x hx; exact wf_int (by omega) (by omega))
  have HWW := hide (show ∀ W : World, BytesAt W z more → Calls Try.prog 9 #[.slice z more.length zc, .int .i64 3] W fun e w' => e = .returned (.int .i64 A) ∧ Below W.heap.size W w' from fun W hW => by
    have h := wWhole_any z zc more 3 W HB'.out hml (by omega) hW
    rw [HAE.out] at h
    exact h.mono fun e w' h' => ⟨h'.1, by rw [← h'.2]; exact Below.refl _ _⟩)
  clear hL hwy
  by_cases h1 : wy = 1
  · have qw : (wy == 1) = true := by rw [beq_iff_eq]; exact h1
    have qw2 : (wy == -1) = false := by rw [beq_eq_false_iff_ne]; omega
    have HW1 := hide h1
    clear h1
    by_cases hat : at' = L
    · have qa : (at' == L) = true := by rw [beq_iff_eq]; exact hat
      clear hat
      go_upto_region 6 with fail
      go_quiet (fail)
      go_upto_region 10 with fail
      have hm6 : Mid w3.heap.size (w3.heap.size + 1) w5 ((w5.drewN nq).setCell ⟨w3.heap.size, 1, none⟩ (.int .i64 0)) := (mid_drewN w5 nq).setCell (Nat.le_refl _) (by omega) _
      have hex : ∃ at2, Box3 ((w5.drewN nq).setCell ⟨w3.heap.size, 1, none⟩ (.int .i64 0)) w3.heap.size k at2 wy ∧ spotP N k at2 wy = true ∧ ¬ roomP N k at2 wy = 0 := by
        refine ⟨0, ⟨by simp [go_sem, s0], by simp [go_sem, s1], by simp [go_sem, s2]⟩, spot_of hkl HWY.out (by omega) (by rw [HL.out]; omega), ?_⟩
        unfold roomP
        rw [if_pos HW1.out, HL.out]
        omega
      generalize ((w5.drewN nq).setCell ⟨w3.heap.size, 1, none⟩ (.int .i64 0)) = w6 at *
      have HOW6 := hide (owns_mid HOW5.out hm6 (by omega))
      have HB36 := hide (HB35.out.trans (hm6.below (by omega)))
      have HBW6 := hide (HBW5.out.trans ((hm6.below (by omega)).mono hw3))
      have n0 := hm6.cell (.inl hbn) n0
      have n1 := hm6.cell (.inl hbn) n1
      obtain ⟨at2, hB3, hsp2, hrm2⟩ := hex
      obtain ⟨z2, zc2, hzv2, hIL⟩ := ints_of_owns HOW6.out
      obtain ⟨rfl, rfl⟩ : z' = z2 ∧ zc' = zc2 := by simpa using hzv2
      have HSP2 := hide hsp2
      have HRM := hide hrm2
      have HIL6 := hide hIL
      have HP6 := hide (HP3.out.later HB36.out)
      have HJ6 := hide (HJ3.out.later HB36.out)
      have HZ6 := hide (HZ.out.later HBW6.out)
      have hb6n := cell_lt n0
      have hb6s := cell_lt hB3.1
      have HWF := hide (show Wf3 (k : Int) at2 wy by
        have h := HSP2.out
        have hw := spot_way h
        have hl := lenAt_le HNB.out k
        simp only [spotP, inR, Bool.and_eq_true, decide_eq_true_eq] at h
        exact ⟨wf_int (by omega) (by omega), wf_int (by omega) (by omega), wf_int (by omega) (by omega)⟩)
      have HNMS := HS9
      have HMMS := HM9
      have HST : Hid (BkS w6 w6 bn w3.heap.size (.slice (some ⟨pb, po, none⟩) N.pcs.length pcap) (.slice ja N.jts.length jcap) (k : Int) at2 wy) := ⟨⟨⟨n0, n1⟩, hB3⟩, Below.refl _ _⟩
      clear hm6 hB3 hsp2 hrm2 hIL hzv2 HOW5 HOW6 HB35 HB36 HBW5 HP3 HJ3 s0 s1 s2 sf p1 n0 n1 qa
      go_cut [8] (fun s8 wx => ∃ (bb : Nat) (r : DRes), s8 = .pointer (some ⟨bb, 0, none⟩) ∧ DriveA N xs (k : Int) at2 wy A r ∧ In6 wx bb r ∧ BkS w6 wx bn w3.heap.size (.slice (some ⟨pb, po, none⟩) N.pcs.length pcap) (.slice ja N.jts.length jcap) (k : Int) at2 wy)
      case first =>
        refine wp_region_held_drew (S := fun wx => BkS w6 wx bn w3.heap.size (.slice (some ⟨pb, po, none⟩) N.pcs.length pcap) (.slice ja N.jts.length jcap) (k : Int) at2 wy) (by kernel_rfl) ?_ (fun _ => ?_)
        · exact keepBk ((Below.refl _ _).drew) HST.out
        have HS0 : Hid (BkS w6 w6.drew bn w3.heap.size (.slice (some ⟨pb, po, none⟩) N.pcs.length pcap) (.slice ja N.jts.length jcap) (k : Int) at2 wy) := keepBk ((Below.refl _ _).drew) HST.out
        generalize w6.drew = wd at *
        refine wpAnyH_take (i := 0) (v := ?va15) rfl (by kernel_rfl) (by kernel_rfl) (by kernel_rfl) (fun _ _ _ h => h) (Or.inl ⟨by rfl, ?hya15⟩) HS0.out ?resta15
        case hya15 => (intro w hSw; (try dsimp only at hSw); go_simp; try with_reducible rfl)
        try simp only [List.getElem_toArray, List.getElem_cons_succ, List.getElem_cons_zero, Act.put, List.setIfInBounds_toArray, List.set_cons_zero, List.set_cons_succ]
        refine wpAnyH_take (i := 1) (v := ?va16) rfl (by kernel_rfl) (by kernel_rfl) (by kernel_rfl) (fun _ _ _ h => h) (Or.inl ⟨by rfl, ?hya16⟩) HS0.out ?resta16
        case hya16 => (intro w hSw; (try dsimp only at hSw); go_simp; try with_reducible rfl)
        try simp only [List.getElem_toArray, List.getElem_cons_succ, List.getElem_cons_zero, Act.put, List.setIfInBounds_toArray, List.set_cons_zero, List.set_cons_succ]
        refine wpAnyH_take (i := 2) (v := ?va17) rfl (by kernel_rfl) (by kernel_rfl) (by kernel_rfl) (fun _ _ _ h => h) (Or.inl ⟨by rfl, ?hya17⟩) HS0.out ?resta17
        case hya17 => (intro w hSw; (try dsimp only at hSw); go_simp; try with_reducible rfl)
        try simp only [List.getElem_toArray, List.getElem_cons_succ, List.getElem_cons_zero, Act.put, List.setIfInBounds_toArray, List.set_cons_zero, List.set_cons_succ]
        refine wpAnyH_take (i := 3) (v := ?va18) rfl (by kernel_rfl) (by kernel_rfl) (by kernel_rfl) (fun _ _ _ h => h) (Or.inl ⟨by rfl, ?hya18⟩) HS0.out ?resta18
        case hya18 => (intro w hSw; (try dsimp only at hSw); go_simp; try with_reducible rfl)
        try simp only [List.getElem_toArray, List.getElem_cons_succ, List.getElem_cons_zero, Act.put, List.setIfInBounds_toArray, List.set_cons_zero, List.set_cons_succ]
        refine wpAnyH_ready (rs := [4, 6]) (by kernel_rfl) (by simp) ?_
        refine AllReadyH.cons rfl (fun K hK => ?_) (AllReadyH.cons rfl (fun K hK => ?_) AllReadyH.nil)
        · go_simp
          go_at_call 9
          refine (HWW.out _ (HZ6.out.later (heldB HS0.out))).mono ?_
          rintro e wc19 ⟨rfl, hbc⟩
          have HS19 : Hid (BkS w6 wc19 bn w3.heap.size (.slice (some ⟨pb, po, none⟩) N.pcs.length pcap) (.slice ja N.jts.length jcap) (k : Int) at2 wy) := keepBk hbc HS0.out
          clear hbc
          go_wp2_with fail
          refine hK.out _ _ ?_ (fun _ => ?_)
          · exact HS19.out
          clear hK K
          try simp only [List.getElem_toArray, List.getElem_cons_succ, List.getElem_cons_zero, Act.put, List.setIfInBounds_toArray, List.set_cons_zero, List.set_cons_succ]
          refine wpAnyH_ready (rs := [5, 6]) (by kernel_rfl) (by simp) ?_
          refine AllReadyH.cons rfl (fun K hK => ?_) (AllReadyH.cons rfl (fun K hK => ?_) AllReadyH.nil)
          · go_simp
            go_at_call 10
            refine (implDrive_any _ _ _ N _ _ _ xs (k : Int) at2 wy A _ HWF.out (wf_int (by omega) (by omega)) HWX.out (by omega) HNMS.out (by omega) HMMS.out hxl (HP6.out.later (heldB HS19.out)) (HJ6.out.later (heldB HS19.out)) (HIL6.out.later (heldB HS19.out))).mono ?_
            rintro e wc20 ⟨r, hDA, rfl, hbc⟩
            have HS20 : Hid (BkS w6 wc20 bn w3.heap.size (.slice (some ⟨pb, po, none⟩) N.pcs.length pcap) (.slice ja N.jts.length jcap) (k : Int) at2 wy) := keepBk hbc HS19.out
            have HDA := hide hDA
            clear hDA
            clear hbc
            go_wp2_with fail
            refine hK.out _ _ ?_ (fun _ => ?_)
            · exact HS20.out
            clear hK K
            try simp only [List.getElem_toArray, List.getElem_cons_succ, List.getElem_cons_zero, Act.put, List.setIfInBounds_toArray, List.set_cons_zero, List.set_cons_succ]
            refine wpAnyH_ready (rs := [6]) (by kernel_rfl) (by simp) ?_
            refine AllReadyH.cons rfl (fun K hK => ?_) AllReadyH.nil
            go_simp
            have hal := (Below.refl wc20.heap.size wc20).alloc (Nat.le_refl _) (.cells #[.int .i64 0, .int .i64 0, .int .i64 0, .int .i64 0, .int .i64 0, .int .i64 0] 35)
            have hzA := (heldB HS20.out).size
            have HS21 := hide (keepBk hal HS20.out)
            clear hal
            refine hK.out _ _ ?_ (fun _ => ?_)
            · exact HS21.out
            clear hK K
            try simp only [List.getElem_toArray, List.getElem_cons_succ, List.getElem_cons_zero, Act.put, List.setIfInBounds_toArray, List.set_cons_zero, List.set_cons_succ]
            refine wpAnyH_ready (rs := [7]) (by kernel_rfl) (by simp) ?_
            refine AllReadyH.cons rfl (fun K hK => ?_) AllReadyH.nil
            go_simp
            refine hK.out _ _ ?_ (fun _ => ?_)
            · exact keepBk ((Below.refl wc20.heap.size wc20).alloc (Nat.le_refl _) _) HS20.out
            clear hK K
            try simp only [List.getElem_toArray, List.getElem_cons_succ, List.getElem_cons_zero, Act.put, List.setIfInBounds_toArray, List.set_cons_zero, List.set_cons_succ]
            refine wpAnyH_done (by kernel_rfl) ?_ _
            go_wp2_with fail
            go_meet
            exact ⟨_, r, rfl, HDA.out, ⟨new_cell wc20 _ _ 0 _ rfl, new_cell wc20 _ _ 1 _ rfl, new_cell wc20 _ _ 2 _ rfl, new_cell wc20 _ _ 3 _ rfl, new_cell wc20 _ _ 4 _ rfl, new_cell wc20 _ _ 5 _ rfl⟩, keepBk ((Below.refl wc20.heap.size wc20).alloc (Nat.le_refl _) _) HS20.out⟩
          · go_simp
            have hal := (Below.refl wc19.heap.size wc19).alloc (Nat.le_refl _) (.cells #[.int .i64 0, .int .i64 0, .int .i64 0, .int .i64 0, .int .i64 0, .int .i64 0] 35)
            have hzA := (heldB HS19.out).size
            have HS22 := hide (keepBk hal HS19.out)
            clear hal
            refine hK.out _ _ ?_ (fun _ => ?_)
            · exact HS22.out
            clear hK K
            try simp only [List.getElem_toArray, List.getElem_cons_succ, List.getElem_cons_zero, Act.put, List.setIfInBounds_toArray, List.set_cons_zero, List.set_cons_succ]
            refine wpAnyH_ready (rs := [5]) (by kernel_rfl) (by simp) ?_
            refine AllReadyH.cons rfl (fun K hK => ?_) AllReadyH.nil
            go_simp
            go_at_call 10
            refine (implDrive_any _ _ _ N _ _ _ xs (k : Int) at2 wy A _ HWF.out (wf_int (by omega) (by omega)) HWX.out (by omega) HNMS.out (by omega) HMMS.out hxl (HP6.out.later (heldB HS22.out)) (HJ6.out.later (heldB HS22.out)) (HIL6.out.later (heldB HS22.out))).mono ?_
            rintro e wc23 ⟨r, hDA, rfl, hbc⟩
            have HS23 : Hid (BkS w6 wc23 bn w3.heap.size (.slice (some ⟨pb, po, none⟩) N.pcs.length pcap) (.slice ja N.jts.length jcap) (k : Int) at2 wy) := keepBk hbc HS22.out
            have HDA := hide hDA
            clear hDA
            have y6_23 := hide (Six.later (six_new wc19 35) hbc)
            clear hbc
            go_wp2_with fail
            refine hK.out _ _ ?_ (fun _ => ?_)
            · exact HS23.out
            clear hK K
            try simp only [List.getElem_toArray, List.getElem_cons_succ, List.getElem_cons_zero, Act.put, List.setIfInBounds_toArray, List.set_cons_zero, List.set_cons_succ]
            obtain ⟨r0, r1, r2, r3, r4, r5, g0, g1, g2, g3, g4, g5⟩ := y6_23.out
            refine wpAnyH_ready (rs := [7]) (by kernel_rfl) (by simp) ?_
            refine AllReadyH.cons rfl (fun K hK => ?_) AllReadyH.nil
            rw [if_pos (by rfl)]
            simp only [List.getElem_toArray, List.getElem_cons_succ, List.getElem_cons_zero]
            go_big_op
            refine hK.out _ _ ?_ (fun _ => ?_)
            · exact keepBk6 HS23.out hzA hb6n hb6s r
            clear hK K
            try simp only [List.getElem_toArray, List.getElem_cons_succ, List.getElem_cons_zero, Act.put, List.setIfInBounds_toArray, List.set_cons_zero, List.set_cons_succ]
            refine wpAnyH_done (by kernel_rfl) ?_ _
            go_wp2_with fail
            go_meet
            exact ⟨_, r, rfl, HDA.out, In6.put y6_23.out r, keepBk6 HS23.out hzA hb6n hb6s r⟩
        · go_simp
          have hal := (Below.refl wd.heap.size wd).alloc (Nat.le_refl _) (.cells #[.int .i64 0, .int .i64 0, .int .i64 0, .int .i64 0, .int .i64 0, .int .i64 0] 35)
          have hzA := (heldB HS0.out).size
          have HS24 := hide (keepBk hal HS0.out)
          clear hal
          refine hK.out _ _ ?_ (fun _ => ?_)
          · exact HS24.out
          clear hK K
          try simp only [List.getElem_toArray, List.getElem_cons_succ, List.getElem_cons_zero, Act.put, List.setIfInBounds_toArray, List.set_cons_zero, List.set_cons_succ]
          refine wpAnyH_ready (rs := [4]) (by kernel_rfl) (by simp) ?_
          refine AllReadyH.cons rfl (fun K hK => ?_) AllReadyH.nil
          go_simp
          go_at_call 9
          refine (HWW.out _ (HZ6.out.later (heldB HS24.out))).mono ?_
          rintro e wc25 ⟨rfl, hbc⟩
          have HS25 : Hid (BkS w6 wc25 bn w3.heap.size (.slice (some ⟨pb, po, none⟩) N.pcs.length pcap) (.slice ja N.jts.length jcap) (k : Int) at2 wy) := keepBk hbc HS24.out
          have y6_25 := hide (Six.later (six_new wd 35) hbc)
          clear hbc
          go_wp2_with fail
          refine hK.out _ _ ?_ (fun _ => ?_)
          · exact HS25.out
          clear hK K
          try simp only [List.getElem_toArray, List.getElem_cons_succ, List.getElem_cons_zero, Act.put, List.setIfInBounds_toArray, List.set_cons_zero, List.set_cons_succ]
          refine wpAnyH_ready (rs := [5]) (by kernel_rfl) (by simp) ?_
          refine AllReadyH.cons rfl (fun K hK => ?_) AllReadyH.nil
          go_simp
          go_at_call 10
          refine (implDrive_any _ _ _ N _ _ _ xs (k : Int) at2 wy A _ HWF.out (wf_int (by omega) (by omega)) HWX.out (by omega) HNMS.out (by omega) HMMS.out hxl (HP6.out.later (heldB HS25.out)) (HJ6.out.later (heldB HS25.out)) (HIL6.out.later (heldB HS25.out))).mono ?_
          rintro e wc26 ⟨r, hDA, rfl, hbc⟩
          have HS26 : Hid (BkS w6 wc26 bn w3.heap.size (.slice (some ⟨pb, po, none⟩) N.pcs.length pcap) (.slice ja N.jts.length jcap) (k : Int) at2 wy) := keepBk hbc HS25.out
          have HDA := hide hDA
          clear hDA
          have y6_26 := hide (y6_25.out.later hbc)
          clear hbc
          go_wp2_with fail
          refine hK.out _ _ ?_ (fun _ => ?_)
          · exact HS26.out
          clear hK K
          try simp only [List.getElem_toArray, List.getElem_cons_succ, List.getElem_cons_zero, Act.put, List.setIfInBounds_toArray, List.set_cons_zero, List.set_cons_succ]
          obtain ⟨r0, r1, r2, r3, r4, r5, g0, g1, g2, g3, g4, g5⟩ := y6_26.out
          refine wpAnyH_ready (rs := [7]) (by kernel_rfl) (by simp) ?_
          refine AllReadyH.cons rfl (fun K hK => ?_) AllReadyH.nil
          rw [if_pos (by rfl)]
          simp only [List.getElem_toArray, List.getElem_cons_succ, List.getElem_cons_zero]
          go_big_op
          refine hK.out _ _ ?_ (fun _ => ?_)
          · exact keepBk6 HS26.out hzA hb6n hb6s r
          clear hK K
          try simp only [List.getElem_toArray, List.getElem_cons_succ, List.getElem_cons_zero, Act.put, List.setIfInBounds_toArray, List.set_cons_zero, List.set_cons_succ]
          refine wpAnyH_done (by kernel_rfl) ?_ _
          go_wp2_with fail
          go_meet
          exact ⟨_, r, rfl, HDA.out, In6.put y6_26.out r, keepBk6 HS26.out hzA hb6n hb6s r⟩
      case rest =>
        obtain ⟨bb, r, rfl, hDA, hI6, hBK⟩ := hcut
        rename World => w7
        have HDA := hide hDA
        have h67 := heldB hBK
        have HP7 := hide (HP6.out.later h67)
        have HJ7 := hide (HJ6.out.later h67)
        have HIL7 := hide (HIL6.out.later h67)
        have HZ7 := hide (HZ6.out.later h67)
        have HBW7 := hide (HBW6.out.trans (h67.mono HBW6.out.size))
        have HSX : Hid (BkX w7 w7 bn w3.heap.size bb (.slice (some ⟨pb, po, none⟩) N.pcs.length pcap) (.slice ja N.jts.length jcap) (k : Int) at2 wy r) := ⟨⟨hBK.1.1, hBK.1.2, hI6⟩, Below.refl _ _⟩
        have hb7n := cell_lt hBK.1.1.1
        have hb7s := cell_lt hBK.1.2.1
        have hb7b := cell_lt hI6.1
        obtain ⟨x0, x1, x2, x3, x4, x5⟩ := hI6
        clear hDA hBK h67 HST HP6 HJ6 HIL6 HZ6 HBW6
        by_cases h4 : r.code = 4
        · have q4 : (r.code == 4) = true := by rw [beq_iff_eq]; exact h4
          clear h4
          go_upto_region 12 with fail
          have h7 : Below w7.heap.size w7 w7.drew := (Below.refl _ _).drew
          go_region_held3 (fun w' => BkX w7 w' bn w3.heap.size bb (.slice (some ⟨pb, po, none⟩) N.pcs.length pcap) (.slice ja N.jts.length jcap) (k : Int) at2 wy r)
            (first
              | (exact keepBx h7 HSX.out)
              | (exact keepBx (by assumption) (by assumption)))
            (first
              | (go_at_call 9; refine (HWW.out _ (HZ7.out.later h7)).mono ?_; rintro e w8 ⟨rfl, hb8⟩)
              | (go_at_call 11; refine (specDrive_any _ _ _ N _ _ _ xs (k : Int) at2 wy A _ (by omega) HNMS.out (by omega) HMMS.out hxl (HP7.out.later (chn h7 hb8)) (HJ7.out.later (chn h7 hb8)) (HIL7.out.later (chn h7 hb8))).mono ?_; rintro e w9 ⟨r', hr', rfl, hb9⟩; obtain rfl := driveA_one HDA.out hr'))
          rename_i hH
          have HBF := hide (HBW7.out.trans ((heldB hH).mono HBW7.out.size))
          go_wp2_with fail
          go_ret
          exact ⟨rfl, HBF.out⟩
        · by_cases h0 : r.far = 0
          · have q4 : (r.code == 4) = false := by rw [beq_eq_false_iff_ne]; exact h4
            have q0 : (r.far == 0) = true := by rw [beq_iff_eq]; exact h0
            clear h4 h0
            go_upto_region 12 with fail
            have h7 : Below w7.heap.size w7 w7.drew := (Below.refl _ _).drew
            go_region_held3 (fun w' => BkX w7 w' bn w3.heap.size bb (.slice (some ⟨pb, po, none⟩) N.pcs.length pcap) (.slice ja N.jts.length jcap) (k : Int) at2 wy r)
              (first
                | (exact keepBx h7 HSX.out)
                | (exact keepBx (by assumption) (by assumption)))
              (first
                | (go_at_call 9; refine (HWW.out _ (HZ7.out.later h7)).mono ?_; rintro e w8 ⟨rfl, hb8⟩)
                | (go_at_call 11; refine (specDrive_any _ _ _ N _ _ _ xs (k : Int) at2 wy A _ (by omega) HNMS.out (by omega) HMMS.out hxl (HP7.out.later (chn h7 hb8)) (HJ7.out.later (chn h7 hb8)) (HIL7.out.later (chn h7 hb8))).mono ?_; rintro e w9 ⟨r', hr', rfl, hb9⟩; obtain rfl := driveA_one HDA.out hr'))
            rename_i hH
            have HBF := hide (HBW7.out.trans ((heldB hH).mono HBW7.out.size))
            go_wp2_with fail
            go_ret
            exact ⟨rfl, HBF.out⟩
          · have q4 : (r.code == 4) = false := by rw [beq_eq_false_iff_ne]; exact h4
            have q0 : (r.far == 0) = false := by rw [beq_eq_false_iff_ne]; exact h0
            have hsx := driveA_spot HDA.out h4
            have hgx := good_all (driveA_code HDA.out h4)
            have hrf : 0 ≤ r.far ∧ r.far ≤ 10200 := by omega
            have HWR := hide (show Wf3 r.q r.at' r.way by
              have h := hsx.1
              have hw := spot_way h
              have hl := lenAt_le HNB.out r.q
              simp only [spotP, inR, Bool.and_eq_true, decide_eq_true_eq] at h
              exact ⟨wf_int (by omega) (by omega), wf_int (by omega) (by omega), wf_int (by omega) (by omega)⟩)
            have HWRT := hide (show Wf3 r.q r.at' (-r.way) by
              have hw := spot_way hsx.1
              exact ⟨HWR.out.1, HWR.out.2.1, wf_int (by omega) (by omega)⟩)
            have HTN := hide (show turnP N r.q r.at' r.way = (r.q, r.at', -r.way) by
              unfold turnP spotOkP
              rw [hgx.1, hsx.1]
              rfl)
            have HTS := hide (show turnP N (k : Int) at2 wy = ((k : Int), at2, -wy) by
              unfold turnP spotOkP
              rw [hgx.1, HSP2.out]
              rfl)
            have H4 := hide h4
            clear h4 h0 hsx hgx
            go_upto_region 13 with fail
            clear x0 x1 x2 x3 x4 x5
            go_cut [9] (fun s9 wx => ∃ (b9 : Nat) (y : DRes), s9 = .pointer (some ⟨b9, 0, none⟩) ∧ DriveA N xs r.q r.at' (-r.way) r.far y ∧ In6 wx b9 y ∧ BkX w7 wx bn w3.heap.size bb (.slice (some ⟨pb, po, none⟩) N.pcs.length pcap) (.slice ja N.jts.length jcap) (k : Int) at2 wy r)
            case first =>
              refine wp_region_held_drew (S := fun wx => BkX w7 wx bn w3.heap.size bb (.slice (some ⟨pb, po, none⟩) N.pcs.length pcap) (.slice ja N.jts.length jcap) (k : Int) at2 wy r) (by kernel_rfl) ?_ (fun _ => ?_)
              · exact keepBx ((Below.refl _ _).drew) HSX.out
              have HS0 : Hid (BkX w7 w7.drew bn w3.heap.size bb (.slice (some ⟨pb, po, none⟩) N.pcs.length pcap) (.slice ja N.jts.length jcap) (k : Int) at2 wy r) := keepBx ((Below.refl _ _).drew) HSX.out
              generalize w7.drew = wd at *
              refine wpAnyH_take (i := 0) (v := ?va0) rfl (by kernel_rfl) (by kernel_rfl) (by kernel_rfl) (fun _ _ _ h => h) (Or.inl ⟨by rfl, ?hya0⟩) HS0.out ?resta0
              case hya0 => (intro w hSw; (try dsimp only at hSw); go_simp; try with_reducible rfl)
              try simp only [List.getElem_toArray, List.getElem_cons_succ, List.getElem_cons_zero, Act.put, List.setIfInBounds_toArray, List.set_cons_zero, List.set_cons_succ]
              refine wpAnyH_take (i := 1) (v := ?va1) rfl (by kernel_rfl) (by kernel_rfl) (by kernel_rfl) (fun _ _ _ h => h) (Or.inl ⟨by rfl, ?hya1⟩) HS0.out ?resta1
              case hya1 => (intro w hSw; (try dsimp only at hSw); go_simp; try with_reducible rfl)
              try simp only [List.getElem_toArray, List.getElem_cons_succ, List.getElem_cons_zero, Act.put, List.setIfInBounds_toArray, List.set_cons_zero, List.set_cons_succ]
              refine wpAnyH_take (i := 2) (v := ?va2) rfl (by kernel_rfl) (by kernel_rfl) (by kernel_rfl) (fun _ _ _ h => h) (Or.inl ⟨by rfl, ?hya2⟩) HS0.out ?resta2
              case hya2 => (intro w hSw; (try dsimp only at hSw); go_simp; try with_reducible rfl)
              try simp only [List.getElem_toArray, List.getElem_cons_succ, List.getElem_cons_zero, Act.put, List.setIfInBounds_toArray, List.set_cons_zero, List.set_cons_succ]
              refine wpAnyH_take (i := 3) (v := ?va3) rfl (by kernel_rfl) (by kernel_rfl) (by kernel_rfl) (fun _ _ _ h => h) (Or.inl ⟨by rfl, ?hya3⟩) HS0.out ?resta3
              case hya3 => (intro w hSw; (try dsimp only at hSw); go_simp; try with_reducible rfl)
              try simp only [List.getElem_toArray, List.getElem_cons_succ, List.getElem_cons_zero, Act.put, List.setIfInBounds_toArray, List.set_cons_zero, List.set_cons_succ]
              refine wpAnyH_take (i := 4) (v := ?va4) rfl (by kernel_rfl) (by kernel_rfl) (by kernel_rfl) (fun _ _ _ h => h) (Or.inl ⟨by rfl, ?hya4⟩) HS0.out ?resta4
              case hya4 => (intro w hSw; (try dsimp only at hSw); go_simp; try with_reducible rfl)
              try simp only [List.getElem_toArray, List.getElem_cons_succ, List.getElem_cons_zero, Act.put, List.setIfInBounds_toArray, List.set_cons_zero, List.set_cons_succ]
              refine wpAnyH_take (i := 6) (v := ?va5) rfl (by kernel_rfl) (by kernel_rfl) (by kernel_rfl) (fun _ _ _ h => h) (Or.inl ⟨by rfl, ?hya5⟩) HS0.out ?resta5
              case hya5 => (intro w hSw; (try dsimp only at hSw); go_simp; try with_reducible rfl)
              try simp only [List.getElem_toArray, List.getElem_cons_succ, List.getElem_cons_zero, Act.put, List.setIfInBounds_toArray, List.set_cons_zero, List.set_cons_succ]
              refine wpAnyH_take (i := 7) (v := ?va6) rfl (by kernel_rfl) (by kernel_rfl) (by kernel_rfl) (fun _ _ _ h => h) (Or.inl ⟨by rfl, ?hya6⟩) HS0.out ?resta6
              case hya6 => (intro w hSw; (try dsimp only at hSw); go_simp; try with_reducible rfl)
              try simp only [List.getElem_toArray, List.getElem_cons_succ, List.getElem_cons_zero, Act.put, List.setIfInBounds_toArray, List.set_cons_zero, List.set_cons_succ]
              refine wpAnyH_ready (rs := [5, 9]) (by kernel_rfl) (by simp) ?_
              refine AllReadyH.cons rfl (fun K hK => ?_) (AllReadyH.cons rfl (fun K hK => ?_) AllReadyH.nil)
              · go_simp
                go_at_call 14
                refine (implTurn_any _ _ N _ _ r.q r.at' r.way _ HWR.out (by omega) HNMS.out (by omega) HMMS.out (HP7.out.later (heldB HS0.out)) (HJ7.out.later (heldB HS0.out))).mono ?_
                rintro e wc7 ⟨rfl, hbc⟩
                have HS7 : Hid (BkX w7 wc7 bn w3.heap.size bb (.slice (some ⟨pb, po, none⟩) N.pcs.length pcap) (.slice ja N.jts.length jcap) (k : Int) at2 wy r) := keepBx hbc HS0.out
                rw [HTN.out]
                clear hbc
                go_wp2_with fail
                refine hK.out _ _ ?_ (fun _ => ?_)
                · exact HS7.out
                clear hK K
                try simp only [List.getElem_toArray, List.getElem_cons_succ, List.getElem_cons_zero, Act.put, List.setIfInBounds_toArray, List.set_cons_zero, List.set_cons_succ]
                refine wpAnyH_ready (rs := [8, 9]) (by kernel_rfl) (by simp) ?_
                refine AllReadyH.cons rfl (fun K hK => ?_) (AllReadyH.cons rfl (fun K hK => ?_) AllReadyH.nil)
                · go_simp
                  go_at_call 10
                  refine (implDrive_any _ _ _ N _ _ _ xs r.q r.at' (-r.way) r.far _ HWRT.out (wf_int (by omega) (by omega)) HWX.out (by omega) HNMS.out (by omega) HMMS.out hxl (HP7.out.later (heldB HS7.out)) (HJ7.out.later (heldB HS7.out)) (HIL7.out.later (heldB HS7.out))).mono ?_
                  rintro e wc8 ⟨y, hDA2, rfl, hbc⟩
                  have HS8 : Hid (BkX w7 wc8 bn w3.heap.size bb (.slice (some ⟨pb, po, none⟩) N.pcs.length pcap) (.slice ja N.jts.length jcap) (k : Int) at2 wy r) := keepBx hbc HS7.out
                  have HDY := hide hDA2
                  clear hDA2
                  clear hbc
                  go_wp2_with fail
                  refine hK.out _ _ ?_ (fun _ => ?_)
                  · exact HS8.out
                  clear hK K
                  try simp only [List.getElem_toArray, List.getElem_cons_succ, List.getElem_cons_zero, Act.put, List.setIfInBounds_toArray, List.set_cons_zero, List.set_cons_succ]
                  refine wpAnyH_ready (rs := [9]) (by kernel_rfl) (by simp) ?_
                  refine AllReadyH.cons rfl (fun K hK => ?_) AllReadyH.nil
                  go_simp
                  have hal := (Below.refl wc8.heap.size wc8).alloc (Nat.le_refl _) (.cells #[.int .i64 0, .int .i64 0, .int .i64 0, .int .i64 0, .int .i64 0, .int .i64 0] 35)
                  have hzA := (heldB HS8.out).size
                  have HS9 := hide (keepBx hal HS8.out)
                  clear hal
                  refine hK.out _ _ ?_ (fun _ => ?_)
                  · exact HS9.out
                  clear hK K
                  try simp only [List.getElem_toArray, List.getElem_cons_succ, List.getElem_cons_zero, Act.put, List.setIfInBounds_toArray, List.set_cons_zero, List.set_cons_succ]
                  refine wpAnyH_ready (rs := [10]) (by kernel_rfl) (by simp) ?_
                  refine AllReadyH.cons rfl (fun K hK => ?_) AllReadyH.nil
                  go_simp
                  refine hK.out _ _ ?_ (fun _ => ?_)
                  · exact keepBx ((Below.refl wc8.heap.size wc8).alloc (Nat.le_refl _) _) HS8.out
                  clear hK K
                  try simp only [List.getElem_toArray, List.getElem_cons_succ, List.getElem_cons_zero, Act.put, List.setIfInBounds_toArray, List.set_cons_zero, List.set_cons_succ]
                  refine wpAnyH_done (by kernel_rfl) ?_ _
                  go_wp2_with fail
                  go_meet
                  exact ⟨_, y, rfl, HDY.out, ⟨new_cell wc8 _ _ 0 _ rfl, new_cell wc8 _ _ 1 _ rfl, new_cell wc8 _ _ 2 _ rfl, new_cell wc8 _ _ 3 _ rfl, new_cell wc8 _ _ 4 _ rfl, new_cell wc8 _ _ 5 _ rfl⟩, keepBx ((Below.refl wc8.heap.size wc8).alloc (Nat.le_refl _) _) HS8.out⟩
                · go_simp
                  have hal := (Below.refl wc7.heap.size wc7).alloc (Nat.le_refl _) (.cells #[.int .i64 0, .int .i64 0, .int .i64 0, .int .i64 0, .int .i64 0, .int .i64 0] 35)
                  have hzA := (heldB HS7.out).size
                  have HS10 := hide (keepBx hal HS7.out)
                  clear hal
                  refine hK.out _ _ ?_ (fun _ => ?_)
                  · exact HS10.out
                  clear hK K
                  try simp only [List.getElem_toArray, List.getElem_cons_succ, List.getElem_cons_zero, Act.put, List.setIfInBounds_toArray, List.set_cons_zero, List.set_cons_succ]
                  refine wpAnyH_ready (rs := [8]) (by kernel_rfl) (by simp) ?_
                  refine AllReadyH.cons rfl (fun K hK => ?_) AllReadyH.nil
                  go_simp
                  go_at_call 10
                  refine (implDrive_any _ _ _ N _ _ _ xs r.q r.at' (-r.way) r.far _ HWRT.out (wf_int (by omega) (by omega)) HWX.out (by omega) HNMS.out (by omega) HMMS.out hxl (HP7.out.later (heldB HS10.out)) (HJ7.out.later (heldB HS10.out)) (HIL7.out.later (heldB HS10.out))).mono ?_
                  rintro e wc11 ⟨y, hDA2, rfl, hbc⟩
                  have HS11 : Hid (BkX w7 wc11 bn w3.heap.size bb (.slice (some ⟨pb, po, none⟩) N.pcs.length pcap) (.slice ja N.jts.length jcap) (k : Int) at2 wy r) := keepBx hbc HS10.out
                  have HDY := hide hDA2
                  clear hDA2
                  have y6_11 := hide (Six.later (six_new wc7 35) hbc)
                  clear hbc
                  go_wp2_with fail
                  refine hK.out _ _ ?_ (fun _ => ?_)
                  · exact HS11.out
                  clear hK K
                  try simp only [List.getElem_toArray, List.getElem_cons_succ, List.getElem_cons_zero, Act.put, List.setIfInBounds_toArray, List.set_cons_zero, List.set_cons_succ]
                  obtain ⟨r0, r1, r2, r3, r4, r5, g0, g1, g2, g3, g4, g5⟩ := y6_11.out
                  refine wpAnyH_ready (rs := [10]) (by kernel_rfl) (by simp) ?_
                  refine AllReadyH.cons rfl (fun K hK => ?_) AllReadyH.nil
                  rw [if_pos (by rfl)]
                  simp only [List.getElem_toArray, List.getElem_cons_succ, List.getElem_cons_zero]
                  go_big_op
                  refine hK.out _ _ ?_ (fun _ => ?_)
                  · exact keepBx6 HS11.out hzA hb7n hb7s hb7b y
                  clear hK K
                  try simp only [List.getElem_toArray, List.getElem_cons_succ, List.getElem_cons_zero, Act.put, List.setIfInBounds_toArray, List.set_cons_zero, List.set_cons_succ]
                  refine wpAnyH_done (by kernel_rfl) ?_ _
                  go_wp2_with fail
                  go_meet
                  exact ⟨_, y, rfl, HDY.out, In6.put y6_11.out y, keepBx6 HS11.out hzA hb7n hb7s hb7b y⟩
              · go_simp
                have hal := (Below.refl wd.heap.size wd).alloc (Nat.le_refl _) (.cells #[.int .i64 0, .int .i64 0, .int .i64 0, .int .i64 0, .int .i64 0, .int .i64 0] 35)
                have hzA := (heldB HS0.out).size
                have HS12 := hide (keepBx hal HS0.out)
                clear hal
                refine hK.out _ _ ?_ (fun _ => ?_)
                · exact HS12.out
                clear hK K
                try simp only [List.getElem_toArray, List.getElem_cons_succ, List.getElem_cons_zero, Act.put, List.setIfInBounds_toArray, List.set_cons_zero, List.set_cons_succ]
                refine wpAnyH_ready (rs := [5]) (by kernel_rfl) (by simp) ?_
                refine AllReadyH.cons rfl (fun K hK => ?_) AllReadyH.nil
                go_simp
                go_at_call 14
                refine (implTurn_any _ _ N _ _ r.q r.at' r.way _ HWR.out (by omega) HNMS.out (by omega) HMMS.out (HP7.out.later (heldB HS12.out)) (HJ7.out.later (heldB HS12.out))).mono ?_
                rintro e wc13 ⟨rfl, hbc⟩
                have HS13 : Hid (BkX w7 wc13 bn w3.heap.size bb (.slice (some ⟨pb, po, none⟩) N.pcs.length pcap) (.slice ja N.jts.length jcap) (k : Int) at2 wy r) := keepBx hbc HS12.out
                rw [HTN.out]
                have y6_13 := hide (Six.later (six_new wd 35) hbc)
                clear hbc
                go_wp2_with fail
                refine hK.out _ _ ?_ (fun _ => ?_)
                · exact HS13.out
                clear hK K
                try simp only [List.getElem_toArray, List.getElem_cons_succ, List.getElem_cons_zero, Act.put, List.setIfInBounds_toArray, List.set_cons_zero, List.set_cons_succ]
                refine wpAnyH_ready (rs := [8]) (by kernel_rfl) (by simp) ?_
                refine AllReadyH.cons rfl (fun K hK => ?_) AllReadyH.nil
                go_simp
                go_at_call 10
                refine (implDrive_any _ _ _ N _ _ _ xs r.q r.at' (-r.way) r.far _ HWRT.out (wf_int (by omega) (by omega)) HWX.out (by omega) HNMS.out (by omega) HMMS.out hxl (HP7.out.later (heldB HS13.out)) (HJ7.out.later (heldB HS13.out)) (HIL7.out.later (heldB HS13.out))).mono ?_
                rintro e wc14 ⟨y, hDA2, rfl, hbc⟩
                have HS14 : Hid (BkX w7 wc14 bn w3.heap.size bb (.slice (some ⟨pb, po, none⟩) N.pcs.length pcap) (.slice ja N.jts.length jcap) (k : Int) at2 wy r) := keepBx hbc HS13.out
                have HDY := hide hDA2
                clear hDA2
                have y6_14 := hide (y6_13.out.later hbc)
                clear hbc
                go_wp2_with fail
                refine hK.out _ _ ?_ (fun _ => ?_)
                · exact HS14.out
                clear hK K
                try simp only [List.getElem_toArray, List.getElem_cons_succ, List.getElem_cons_zero, Act.put, List.setIfInBounds_toArray, List.set_cons_zero, List.set_cons_succ]
                obtain ⟨r0, r1, r2, r3, r4, r5, g0, g1, g2, g3, g4, g5⟩ := y6_14.out
                refine wpAnyH_ready (rs := [10]) (by kernel_rfl) (by simp) ?_
                refine AllReadyH.cons rfl (fun K hK => ?_) AllReadyH.nil
                rw [if_pos (by rfl)]
                simp only [List.getElem_toArray, List.getElem_cons_succ, List.getElem_cons_zero]
                go_big_op
                refine hK.out _ _ ?_ (fun _ => ?_)
                · exact keepBx6 HS14.out hzA hb7n hb7s hb7b y
                clear hK K
                try simp only [List.getElem_toArray, List.getElem_cons_succ, List.getElem_cons_zero, Act.put, List.setIfInBounds_toArray, List.set_cons_zero, List.set_cons_succ]
                refine wpAnyH_done (by kernel_rfl) ?_ _
                go_wp2_with fail
                go_meet
                exact ⟨_, y, rfl, HDY.out, In6.put y6_14.out y, keepBx6 HS14.out hzA hb7n hb7s hb7b y⟩
            case rest =>
              obtain ⟨b9, y, rfl, hDY, hY6, hBX⟩ := hcut
              rename World => w8
              obtain ⟨e0, e1, e3, e4, e5⟩ := back_home HDA.out H4.out HRM.out hDY
              obtain ⟨yc, yf, yj, yq, ya, yw, yp⟩ := y
              dsimp only at e0 e1 e3 e4 e5 hY6
              subst e0
              subst e1
              subst e3
              have e4 := e4.symm
              subst e4
              subst e5
              have h78 := heldB hBX
              have HP8 := hide (HP7.out.later h78)
              have HJ8 := hide (HJ7.out.later h78)
              have HBW8 := hide (HBW7.out.trans (h78.mono HBW7.out.size))
              have HSY : Hid (BkY w8 w8 bn w3.heap.size bb b9 (.slice (some ⟨pb, po, none⟩) N.pcs.length pcap) (.slice ja N.jts.length jcap) (k : Int) at2 wy r ⟨0, r.far, yj, (k : Int), at2, -wy, yp⟩) := ⟨⟨hBX.1.1, hBX.1.2.1, hBX.1.2.2, hY6⟩, Below.refl _ _⟩
              clear hDY hY6 hBX h78 HSX HP7 HJ7 HIL7 HZ7 HBW7
              have h8 : Below w8.heap.size w8 w8.drew := (Below.refl _ _).drew
              go_upto_region 14 with fail
              go_region_held3 (fun w' => BkY w8 w' bn w3.heap.size bb b9 (.slice (some ⟨pb, po, none⟩) N.pcs.length pcap) (.slice ja N.jts.length jcap) (k : Int) at2 wy r ⟨0, r.far, yj, (k : Int), at2, -wy, yp⟩)
                (first
                  | (exact keepBy h8 HSY.out)
                  | (exact keepBy (by assumption) (by assumption)))
                (first
                  | (go_at_call 14; refine (implTurn_any _ _ N _ _ (k : Int) at2 wy _ HWF.out (by omega) HNMS.out (by omega) HMMS.out (HP8.out.later h8) (HJ8.out.later h8)).mono ?_; rintro e w9 ⟨rfl, hb9⟩; rw [HTS.out]; dsimp only))
              rename_i hH
              have HBF := hide (HBW8.out.trans ((heldB hH).mono HBW8.out.size))
              go_wp2_with fail
              go_ret
              exact ⟨rfl, HBF.out⟩
    · have qa : (at' == L) = false := by rw [beq_eq_false_iff_ne]; exact hat
      have HAT := hide hat
      clear hat
      go_upto_region 6 with fail
      go_quiet (fail)
      go_upto_region 10 with fail
      have hm6 : Mid w3.heap.size (w3.heap.size + 1) w5 (w5.drewN nq) := mid_drewN w5 nq
      have hex : ∃ at2, Box3 (w5.drewN nq) w3.heap.size k at2 wy ∧ spotP N k at2 wy = true ∧ ¬ roomP N k at2 wy = 0 := by
        refine ⟨at', ⟨s0, s1, s2⟩, spot_of hkl HWY.out (by omega) (by rw [HL.out]; omega), ?_⟩
        unfold roomP
        rw [if_pos HW1.out, HL.out]
        have := HAT.out; omega
      generalize (w5.drewN nq) = w6 at *
      have HOW6 := hide (owns_mid HOW5.out hm6 (by omega))
      have HB36 := hide (HB35.out.trans (hm6.below (by omega)))
      have HBW6 := hide (HBW5.out.trans ((hm6.below (by omega)).mono hw3))
      have n0 := hm6.cell (.inl hbn) n0
      have n1 := hm6.cell (.inl hbn) n1
      obtain ⟨at2, hB3, hsp2, hrm2⟩ := hex
      obtain ⟨z2, zc2, hzv2, hIL⟩ := ints_of_owns HOW6.out
      obtain ⟨rfl, rfl⟩ : z' = z2 ∧ zc' = zc2 := by simpa using hzv2
      have HSP2 := hide hsp2
      have HRM := hide hrm2
      have HIL6 := hide hIL
      have HP6 := hide (HP3.out.later HB36.out)
      have HJ6 := hide (HJ3.out.later HB36.out)
      have HZ6 := hide (HZ.out.later HBW6.out)
      have hb6n := cell_lt n0
      have hb6s := cell_lt hB3.1
      have HWF := hide (show Wf3 (k : Int) at2 wy by
        have h := HSP2.out
        have hw := spot_way h
        have hl := lenAt_le HNB.out k
        simp only [spotP, inR, Bool.and_eq_true, decide_eq_true_eq] at h
        exact ⟨wf_int (by omega) (by omega), wf_int (by omega) (by omega), wf_int (by omega) (by omega)⟩)
      have HNMS := HS9
      have HMMS := HM9
      have HST : Hid (BkS w6 w6 bn w3.heap.size (.slice (some ⟨pb, po, none⟩) N.pcs.length pcap) (.slice ja N.jts.length jcap) (k : Int) at2 wy) := ⟨⟨⟨n0, n1⟩, hB3⟩, Below.refl _ _⟩
      clear hm6 hB3 hsp2 hrm2 hIL hzv2 HOW5 HOW6 HB35 HB36 HBW5 HP3 HJ3 s0 s1 s2 sf p1 n0 n1 qa
      go_cut [8] (fun s8 wx => ∃ (bb : Nat) (r : DRes), s8 = .pointer (some ⟨bb, 0, none⟩) ∧ DriveA N xs (k : Int) at2 wy A r ∧ In6 wx bb r ∧ BkS w6 wx bn w3.heap.size (.slice (some ⟨pb, po, none⟩) N.pcs.length pcap) (.slice ja N.jts.length jcap) (k : Int) at2 wy)
      case first =>
        refine wp_region_held_drew (S := fun wx => BkS w6 wx bn w3.heap.size (.slice (some ⟨pb, po, none⟩) N.pcs.length pcap) (.slice ja N.jts.length jcap) (k : Int) at2 wy) (by kernel_rfl) ?_ (fun _ => ?_)
        · exact keepBk ((Below.refl _ _).drew) HST.out
        have HS0 : Hid (BkS w6 w6.drew bn w3.heap.size (.slice (some ⟨pb, po, none⟩) N.pcs.length pcap) (.slice ja N.jts.length jcap) (k : Int) at2 wy) := keepBk ((Below.refl _ _).drew) HST.out
        generalize w6.drew = wd at *
        refine wpAnyH_take (i := 0) (v := ?vb15) rfl (by kernel_rfl) (by kernel_rfl) (by kernel_rfl) (fun _ _ _ h => h) (Or.inl ⟨by rfl, ?hyb15⟩) HS0.out ?restb15
        case hyb15 => (intro w hSw; (try dsimp only at hSw); go_simp; try with_reducible rfl)
        try simp only [List.getElem_toArray, List.getElem_cons_succ, List.getElem_cons_zero, Act.put, List.setIfInBounds_toArray, List.set_cons_zero, List.set_cons_succ]
        refine wpAnyH_take (i := 1) (v := ?vb16) rfl (by kernel_rfl) (by kernel_rfl) (by kernel_rfl) (fun _ _ _ h => h) (Or.inl ⟨by rfl, ?hyb16⟩) HS0.out ?restb16
        case hyb16 => (intro w hSw; (try dsimp only at hSw); go_simp; try with_reducible rfl)
        try simp only [List.getElem_toArray, List.getElem_cons_succ, List.getElem_cons_zero, Act.put, List.setIfInBounds_toArray, List.set_cons_zero, List.set_cons_succ]
        refine wpAnyH_take (i := 2) (v := ?vb17) rfl (by kernel_rfl) (by kernel_rfl) (by kernel_rfl) (fun _ _ _ h => h) (Or.inl ⟨by rfl, ?hyb17⟩) HS0.out ?restb17
        case hyb17 => (intro w hSw; (try dsimp only at hSw); go_simp; try with_reducible rfl)
        try simp only [List.getElem_toArray, List.getElem_cons_succ, List.getElem_cons_zero, Act.put, List.setIfInBounds_toArray, List.set_cons_zero, List.set_cons_succ]
        refine wpAnyH_take (i := 3) (v := ?vb18) rfl (by kernel_rfl) (by kernel_rfl) (by kernel_rfl) (fun _ _ _ h => h) (Or.inl ⟨by rfl, ?hyb18⟩) HS0.out ?restb18
        case hyb18 => (intro w hSw; (try dsimp only at hSw); go_simp; try with_reducible rfl)
        try simp only [List.getElem_toArray, List.getElem_cons_succ, List.getElem_cons_zero, Act.put, List.setIfInBounds_toArray, List.set_cons_zero, List.set_cons_succ]
        refine wpAnyH_ready (rs := [4, 6]) (by kernel_rfl) (by simp) ?_
        refine AllReadyH.cons rfl (fun K hK => ?_) (AllReadyH.cons rfl (fun K hK => ?_) AllReadyH.nil)
        · go_simp
          go_at_call 9
          refine (HWW.out _ (HZ6.out.later (heldB HS0.out))).mono ?_
          rintro e wc19 ⟨rfl, hbc⟩
          have HS19 : Hid (BkS w6 wc19 bn w3.heap.size (.slice (some ⟨pb, po, none⟩) N.pcs.length pcap) (.slice ja N.jts.length jcap) (k : Int) at2 wy) := keepBk hbc HS0.out
          clear hbc
          go_wp2_with fail
          refine hK.out _ _ ?_ (fun _ => ?_)
          · exact HS19.out
          clear hK K
          try simp only [List.getElem_toArray, List.getElem_cons_succ, List.getElem_cons_zero, Act.put, List.setIfInBounds_toArray, List.set_cons_zero, List.set_cons_succ]
          refine wpAnyH_ready (rs := [5, 6]) (by kernel_rfl) (by simp) ?_
          refine AllReadyH.cons rfl (fun K hK => ?_) (AllReadyH.cons rfl (fun K hK => ?_) AllReadyH.nil)
          · go_simp
            go_at_call 10
            refine (implDrive_any _ _ _ N _ _ _ xs (k : Int) at2 wy A _ HWF.out (wf_int (by omega) (by omega)) HWX.out (by omega) HNMS.out (by omega) HMMS.out hxl (HP6.out.later (heldB HS19.out)) (HJ6.out.later (heldB HS19.out)) (HIL6.out.later (heldB HS19.out))).mono ?_
            rintro e wc20 ⟨r, hDA, rfl, hbc⟩
            have HS20 : Hid (BkS w6 wc20 bn w3.heap.size (.slice (some ⟨pb, po, none⟩) N.pcs.length pcap) (.slice ja N.jts.length jcap) (k : Int) at2 wy) := keepBk hbc HS19.out
            have HDA := hide hDA
            clear hDA
            clear hbc
            go_wp2_with fail
            refine hK.out _ _ ?_ (fun _ => ?_)
            · exact HS20.out
            clear hK K
            try simp only [List.getElem_toArray, List.getElem_cons_succ, List.getElem_cons_zero, Act.put, List.setIfInBounds_toArray, List.set_cons_zero, List.set_cons_succ]
            refine wpAnyH_ready (rs := [6]) (by kernel_rfl) (by simp) ?_
            refine AllReadyH.cons rfl (fun K hK => ?_) AllReadyH.nil
            go_simp
            have hal := (Below.refl wc20.heap.size wc20).alloc (Nat.le_refl _) (.cells #[.int .i64 0, .int .i64 0, .int .i64 0, .int .i64 0, .int .i64 0, .int .i64 0] 35)
            have hzA := (heldB HS20.out).size
            have HS21 := hide (keepBk hal HS20.out)
            clear hal
            refine hK.out _ _ ?_ (fun _ => ?_)
            · exact HS21.out
            clear hK K
            try simp only [List.getElem_toArray, List.getElem_cons_succ, List.getElem_cons_zero, Act.put, List.setIfInBounds_toArray, List.set_cons_zero, List.set_cons_succ]
            refine wpAnyH_ready (rs := [7]) (by kernel_rfl) (by simp) ?_
            refine AllReadyH.cons rfl (fun K hK => ?_) AllReadyH.nil
            go_simp
            refine hK.out _ _ ?_ (fun _ => ?_)
            · exact keepBk ((Below.refl wc20.heap.size wc20).alloc (Nat.le_refl _) _) HS20.out
            clear hK K
            try simp only [List.getElem_toArray, List.getElem_cons_succ, List.getElem_cons_zero, Act.put, List.setIfInBounds_toArray, List.set_cons_zero, List.set_cons_succ]
            refine wpAnyH_done (by kernel_rfl) ?_ _
            go_wp2_with fail
            go_meet
            exact ⟨_, r, rfl, HDA.out, ⟨new_cell wc20 _ _ 0 _ rfl, new_cell wc20 _ _ 1 _ rfl, new_cell wc20 _ _ 2 _ rfl, new_cell wc20 _ _ 3 _ rfl, new_cell wc20 _ _ 4 _ rfl, new_cell wc20 _ _ 5 _ rfl⟩, keepBk ((Below.refl wc20.heap.size wc20).alloc (Nat.le_refl _) _) HS20.out⟩
          · go_simp
            have hal := (Below.refl wc19.heap.size wc19).alloc (Nat.le_refl _) (.cells #[.int .i64 0, .int .i64 0, .int .i64 0, .int .i64 0, .int .i64 0, .int .i64 0] 35)
            have hzA := (heldB HS19.out).size
            have HS22 := hide (keepBk hal HS19.out)
            clear hal
            refine hK.out _ _ ?_ (fun _ => ?_)
            · exact HS22.out
            clear hK K
            try simp only [List.getElem_toArray, List.getElem_cons_succ, List.getElem_cons_zero, Act.put, List.setIfInBounds_toArray, List.set_cons_zero, List.set_cons_succ]
            refine wpAnyH_ready (rs := [5]) (by kernel_rfl) (by simp) ?_
            refine AllReadyH.cons rfl (fun K hK => ?_) AllReadyH.nil
            go_simp
            go_at_call 10
            refine (implDrive_any _ _ _ N _ _ _ xs (k : Int) at2 wy A _ HWF.out (wf_int (by omega) (by omega)) HWX.out (by omega) HNMS.out (by omega) HMMS.out hxl (HP6.out.later (heldB HS22.out)) (HJ6.out.later (heldB HS22.out)) (HIL6.out.later (heldB HS22.out))).mono ?_
            rintro e wc23 ⟨r, hDA, rfl, hbc⟩
            have HS23 : Hid (BkS w6 wc23 bn w3.heap.size (.slice (some ⟨pb, po, none⟩) N.pcs.length pcap) (.slice ja N.jts.length jcap) (k : Int) at2 wy) := keepBk hbc HS22.out
            have HDA := hide hDA
            clear hDA
            have y6_23 := hide (Six.later (six_new wc19 35) hbc)
            clear hbc
            go_wp2_with fail
            refine hK.out _ _ ?_ (fun _ => ?_)
            · exact HS23.out
            clear hK K
            try simp only [List.getElem_toArray, List.getElem_cons_succ, List.getElem_cons_zero, Act.put, List.setIfInBounds_toArray, List.set_cons_zero, List.set_cons_succ]
            obtain ⟨r0, r1, r2, r3, r4, r5, g0, g1, g2, g3, g4, g5⟩ := y6_23.out
            refine wpAnyH_ready (rs := [7]) (by kernel_rfl) (by simp) ?_
            refine AllReadyH.cons rfl (fun K hK => ?_) AllReadyH.nil
            rw [if_pos (by rfl)]
            simp only [List.getElem_toArray, List.getElem_cons_succ, List.getElem_cons_zero]
            go_big_op
            refine hK.out _ _ ?_ (fun _ => ?_)
            · exact keepBk6 HS23.out hzA hb6n hb6s r
            clear hK K
            try simp only [List.getElem_toArray, List.getElem_cons_succ, List.getElem_cons_zero, Act.put, List.setIfInBounds_toArray, List.set_cons_zero, List.set_cons_succ]
            refine wpAnyH_done (by kernel_rfl) ?_ _
            go_wp2_with fail
            go_meet
            exact ⟨_, r, rfl, HDA.out, In6.put y6_23.out r, keepBk6 HS23.out hzA hb6n hb6s r⟩
        · go_simp
          have hal := (Below.refl wd.heap.size wd).alloc (Nat.le_refl _) (.cells #[.int .i64 0, .int .i64 0, .int .i64 0, .int .i64 0, .int .i64 0, .int .i64 0] 35)
          have hzA := (heldB HS0.out).size
          have HS24 := hide (keepBk hal HS0.out)
          clear hal
          refine hK.out _ _ ?_ (fun _ => ?_)
          · exact HS24.out
          clear hK K
          try simp only [List.getElem_toArray, List.getElem_cons_succ, List.getElem_cons_zero, Act.put, List.setIfInBounds_toArray, List.set_cons_zero, List.set_cons_succ]
          refine wpAnyH_ready (rs := [4]) (by kernel_rfl) (by simp) ?_
          refine AllReadyH.cons rfl (fun K hK => ?_) AllReadyH.nil
          go_simp
          go_at_call 9
          refine (HWW.out _ (HZ6.out.later (heldB HS24.out))).mono ?_
          rintro e wc25 ⟨rfl, hbc⟩
          have HS25 : Hid (BkS w6 wc25 bn w3.heap.size (.slice (some ⟨pb, po, none⟩) N.pcs.length pcap) (.slice ja N.jts.length jcap) (k : Int) at2 wy) := keepBk hbc HS24.out
          have y6_25 := hide (Six.later (six_new wd 35) hbc)
          clear hbc
          go_wp2_with fail
          refine hK.out _ _ ?_ (fun _ => ?_)
          · exact HS25.out
          clear hK K
          try simp only [List.getElem_toArray, List.getElem_cons_succ, List.getElem_cons_zero, Act.put, List.setIfInBounds_toArray, List.set_cons_zero, List.set_cons_succ]
          refine wpAnyH_ready (rs := [5]) (by kernel_rfl) (by simp) ?_
          refine AllReadyH.cons rfl (fun K hK => ?_) AllReadyH.nil
          go_simp
          go_at_call 10
          refine (implDrive_any _ _ _ N _ _ _ xs (k : Int) at2 wy A _ HWF.out (wf_int (by omega) (by omega)) HWX.out (by omega) HNMS.out (by omega) HMMS.out hxl (HP6.out.later (heldB HS25.out)) (HJ6.out.later (heldB HS25.out)) (HIL6.out.later (heldB HS25.out))).mono ?_
          rintro e wc26 ⟨r, hDA, rfl, hbc⟩
          have HS26 : Hid (BkS w6 wc26 bn w3.heap.size (.slice (some ⟨pb, po, none⟩) N.pcs.length pcap) (.slice ja N.jts.length jcap) (k : Int) at2 wy) := keepBk hbc HS25.out
          have HDA := hide hDA
          clear hDA
          have y6_26 := hide (y6_25.out.later hbc)
          clear hbc
          go_wp2_with fail
          refine hK.out _ _ ?_ (fun _ => ?_)
          · exact HS26.out
          clear hK K
          try simp only [List.getElem_toArray, List.getElem_cons_succ, List.getElem_cons_zero, Act.put, List.setIfInBounds_toArray, List.set_cons_zero, List.set_cons_succ]
          obtain ⟨r0, r1, r2, r3, r4, r5, g0, g1, g2, g3, g4, g5⟩ := y6_26.out
          refine wpAnyH_ready (rs := [7]) (by kernel_rfl) (by simp) ?_
          refine AllReadyH.cons rfl (fun K hK => ?_) AllReadyH.nil
          rw [if_pos (by rfl)]
          simp only [List.getElem_toArray, List.getElem_cons_succ, List.getElem_cons_zero]
          go_big_op
          refine hK.out _ _ ?_ (fun _ => ?_)
          · exact keepBk6 HS26.out hzA hb6n hb6s r
          clear hK K
          try simp only [List.getElem_toArray, List.getElem_cons_succ, List.getElem_cons_zero, Act.put, List.setIfInBounds_toArray, List.set_cons_zero, List.set_cons_succ]
          refine wpAnyH_done (by kernel_rfl) ?_ _
          go_wp2_with fail
          go_meet
          exact ⟨_, r, rfl, HDA.out, In6.put y6_26.out r, keepBk6 HS26.out hzA hb6n hb6s r⟩
      case rest =>
        obtain ⟨bb, r, rfl, hDA, hI6, hBK⟩ := hcut
        rename World => w7
        have HDA := hide hDA
        have h67 := heldB hBK
        have HP7 := hide (HP6.out.later h67)
        have HJ7 := hide (HJ6.out.later h67)
        have HIL7 := hide (HIL6.out.later h67)
        have HZ7 := hide (HZ6.out.later h67)
        have HBW7 := hide (HBW6.out.trans (h67.mono HBW6.out.size))
        have HSX : Hid (BkX w7 w7 bn w3.heap.size bb (.slice (some ⟨pb, po, none⟩) N.pcs.length pcap) (.slice ja N.jts.length jcap) (k : Int) at2 wy r) := ⟨⟨hBK.1.1, hBK.1.2, hI6⟩, Below.refl _ _⟩
        have hb7n := cell_lt hBK.1.1.1
        have hb7s := cell_lt hBK.1.2.1
        have hb7b := cell_lt hI6.1
        obtain ⟨x0, x1, x2, x3, x4, x5⟩ := hI6
        clear hDA hBK h67 HST HP6 HJ6 HIL6 HZ6 HBW6
        by_cases h4 : r.code = 4
        · have q4 : (r.code == 4) = true := by rw [beq_iff_eq]; exact h4
          clear h4
          go_upto_region 12 with fail
          have h7 : Below w7.heap.size w7 w7.drew := (Below.refl _ _).drew
          go_region_held3 (fun w' => BkX w7 w' bn w3.heap.size bb (.slice (some ⟨pb, po, none⟩) N.pcs.length pcap) (.slice ja N.jts.length jcap) (k : Int) at2 wy r)
            (first
              | (exact keepBx h7 HSX.out)
              | (exact keepBx (by assumption) (by assumption)))
            (first
              | (go_at_call 9; refine (HWW.out _ (HZ7.out.later h7)).mono ?_; rintro e w8 ⟨rfl, hb8⟩)
              | (go_at_call 11; refine (specDrive_any _ _ _ N _ _ _ xs (k : Int) at2 wy A _ (by omega) HNMS.out (by omega) HMMS.out hxl (HP7.out.later (chn h7 hb8)) (HJ7.out.later (chn h7 hb8)) (HIL7.out.later (chn h7 hb8))).mono ?_; rintro e w9 ⟨r', hr', rfl, hb9⟩; obtain rfl := driveA_one HDA.out hr'))
          rename_i hH
          have HBF := hide (HBW7.out.trans ((heldB hH).mono HBW7.out.size))
          go_wp2_with fail
          go_ret
          exact ⟨rfl, HBF.out⟩
        · by_cases h0 : r.far = 0
          · have q4 : (r.code == 4) = false := by rw [beq_eq_false_iff_ne]; exact h4
            have q0 : (r.far == 0) = true := by rw [beq_iff_eq]; exact h0
            clear h4 h0
            go_upto_region 12 with fail
            have h7 : Below w7.heap.size w7 w7.drew := (Below.refl _ _).drew
            go_region_held3 (fun w' => BkX w7 w' bn w3.heap.size bb (.slice (some ⟨pb, po, none⟩) N.pcs.length pcap) (.slice ja N.jts.length jcap) (k : Int) at2 wy r)
              (first
                | (exact keepBx h7 HSX.out)
                | (exact keepBx (by assumption) (by assumption)))
              (first
                | (go_at_call 9; refine (HWW.out _ (HZ7.out.later h7)).mono ?_; rintro e w8 ⟨rfl, hb8⟩)
                | (go_at_call 11; refine (specDrive_any _ _ _ N _ _ _ xs (k : Int) at2 wy A _ (by omega) HNMS.out (by omega) HMMS.out hxl (HP7.out.later (chn h7 hb8)) (HJ7.out.later (chn h7 hb8)) (HIL7.out.later (chn h7 hb8))).mono ?_; rintro e w9 ⟨r', hr', rfl, hb9⟩; obtain rfl := driveA_one HDA.out hr'))
            rename_i hH
            have HBF := hide (HBW7.out.trans ((heldB hH).mono HBW7.out.size))
            go_wp2_with fail
            go_ret
            exact ⟨rfl, HBF.out⟩
          · have q4 : (r.code == 4) = false := by rw [beq_eq_false_iff_ne]; exact h4
            have q0 : (r.far == 0) = false := by rw [beq_eq_false_iff_ne]; exact h0
            have hsx := driveA_spot HDA.out h4
            have hgx := good_all (driveA_code HDA.out h4)
            have hrf : 0 ≤ r.far ∧ r.far ≤ 10200 := by omega
            have HWR := hide (show Wf3 r.q r.at' r.way by
              have h := hsx.1
              have hw := spot_way h
              have hl := lenAt_le HNB.out r.q
              simp only [spotP, inR, Bool.and_eq_true, decide_eq_true_eq] at h
              exact ⟨wf_int (by omega) (by omega), wf_int (by omega) (by omega), wf_int (by omega) (by omega)⟩)
            have HWRT := hide (show Wf3 r.q r.at' (-r.way) by
              have hw := spot_way hsx.1
              exact ⟨HWR.out.1, HWR.out.2.1, wf_int (by omega) (by omega)⟩)
            have HTN := hide (show turnP N r.q r.at' r.way = (r.q, r.at', -r.way) by
              unfold turnP spotOkP
              rw [hgx.1, hsx.1]
              rfl)
            have HTS := hide (show turnP N (k : Int) at2 wy = ((k : Int), at2, -wy) by
              unfold turnP spotOkP
              rw [hgx.1, HSP2.out]
              rfl)
            have H4 := hide h4
            clear h4 h0 hsx hgx
            go_upto_region 13 with fail
            clear x0 x1 x2 x3 x4 x5
            go_cut [9] (fun s9 wx => ∃ (b9 : Nat) (y : DRes), s9 = .pointer (some ⟨b9, 0, none⟩) ∧ DriveA N xs r.q r.at' (-r.way) r.far y ∧ In6 wx b9 y ∧ BkX w7 wx bn w3.heap.size bb (.slice (some ⟨pb, po, none⟩) N.pcs.length pcap) (.slice ja N.jts.length jcap) (k : Int) at2 wy r)
            case first =>
              refine wp_region_held_drew (S := fun wx => BkX w7 wx bn w3.heap.size bb (.slice (some ⟨pb, po, none⟩) N.pcs.length pcap) (.slice ja N.jts.length jcap) (k : Int) at2 wy r) (by kernel_rfl) ?_ (fun _ => ?_)
              · exact keepBx ((Below.refl _ _).drew) HSX.out
              have HS0 : Hid (BkX w7 w7.drew bn w3.heap.size bb (.slice (some ⟨pb, po, none⟩) N.pcs.length pcap) (.slice ja N.jts.length jcap) (k : Int) at2 wy r) := keepBx ((Below.refl _ _).drew) HSX.out
              generalize w7.drew = wd at *
              refine wpAnyH_take (i := 0) (v := ?vb0) rfl (by kernel_rfl) (by kernel_rfl) (by kernel_rfl) (fun _ _ _ h => h) (Or.inl ⟨by rfl, ?hyb0⟩) HS0.out ?restb0
              case hyb0 => (intro w hSw; (try dsimp only at hSw); go_simp; try with_reducible rfl)
              try simp only [List.getElem_toArray, List.getElem_cons_succ, List.getElem_cons_zero, Act.put, List.setIfInBounds_toArray, List.set_cons_zero, List.set_cons_succ]
              refine wpAnyH_take (i := 1) (v := ?vb1) rfl (by kernel_rfl) (by kernel_rfl) (by kernel_rfl) (fun _ _ _ h => h) (Or.inl ⟨by rfl, ?hyb1⟩) HS0.out ?restb1
              case hyb1 => (intro w hSw; (try dsimp only at hSw); go_simp; try with_reducible rfl)
              try simp only [List.getElem_toArray, List.getElem_cons_succ, List.getElem_cons_zero, Act.put, List.setIfInBounds_toArray, List.set_cons_zero, List.set_cons_succ]
              refine wpAnyH_take (i := 2) (v := ?vb2) rfl (by kernel_rfl) (by kernel_rfl) (by kernel_rfl) (fun _ _ _ h => h) (Or.inl ⟨by rfl, ?hyb2⟩) HS0.out ?restb2
              case hyb2 => (intro w hSw; (try dsimp only at hSw); go_simp; try with_reducible rfl)
              try simp only [List.getElem_toArray, List.getElem_cons_succ, List.getElem_cons_zero, Act.put, List.setIfInBounds_toArray, List.set_cons_zero, List.set_cons_succ]
              refine wpAnyH_take (i := 3) (v := ?vb3) rfl (by kernel_rfl) (by kernel_rfl) (by kernel_rfl) (fun _ _ _ h => h) (Or.inl ⟨by rfl, ?hyb3⟩) HS0.out ?restb3
              case hyb3 => (intro w hSw; (try dsimp only at hSw); go_simp; try with_reducible rfl)
              try simp only [List.getElem_toArray, List.getElem_cons_succ, List.getElem_cons_zero, Act.put, List.setIfInBounds_toArray, List.set_cons_zero, List.set_cons_succ]
              refine wpAnyH_take (i := 4) (v := ?vb4) rfl (by kernel_rfl) (by kernel_rfl) (by kernel_rfl) (fun _ _ _ h => h) (Or.inl ⟨by rfl, ?hyb4⟩) HS0.out ?restb4
              case hyb4 => (intro w hSw; (try dsimp only at hSw); go_simp; try with_reducible rfl)
              try simp only [List.getElem_toArray, List.getElem_cons_succ, List.getElem_cons_zero, Act.put, List.setIfInBounds_toArray, List.set_cons_zero, List.set_cons_succ]
              refine wpAnyH_take (i := 6) (v := ?vb5) rfl (by kernel_rfl) (by kernel_rfl) (by kernel_rfl) (fun _ _ _ h => h) (Or.inl ⟨by rfl, ?hyb5⟩) HS0.out ?restb5
              case hyb5 => (intro w hSw; (try dsimp only at hSw); go_simp; try with_reducible rfl)
              try simp only [List.getElem_toArray, List.getElem_cons_succ, List.getElem_cons_zero, Act.put, List.setIfInBounds_toArray, List.set_cons_zero, List.set_cons_succ]
              refine wpAnyH_take (i := 7) (v := ?vb6) rfl (by kernel_rfl) (by kernel_rfl) (by kernel_rfl) (fun _ _ _ h => h) (Or.inl ⟨by rfl, ?hyb6⟩) HS0.out ?restb6
              case hyb6 => (intro w hSw; (try dsimp only at hSw); go_simp; try with_reducible rfl)
              try simp only [List.getElem_toArray, List.getElem_cons_succ, List.getElem_cons_zero, Act.put, List.setIfInBounds_toArray, List.set_cons_zero, List.set_cons_succ]
              refine wpAnyH_ready (rs := [5, 9]) (by kernel_rfl) (by simp) ?_
              refine AllReadyH.cons rfl (fun K hK => ?_) (AllReadyH.cons rfl (fun K hK => ?_) AllReadyH.nil)
              · go_simp
                go_at_call 14
                refine (implTurn_any _ _ N _ _ r.q r.at' r.way _ HWR.out (by omega) HNMS.out (by omega) HMMS.out (HP7.out.later (heldB HS0.out)) (HJ7.out.later (heldB HS0.out))).mono ?_
                rintro e wc7 ⟨rfl, hbc⟩
                have HS7 : Hid (BkX w7 wc7 bn w3.heap.size bb (.slice (some ⟨pb, po, none⟩) N.pcs.length pcap) (.slice ja N.jts.length jcap) (k : Int) at2 wy r) := keepBx hbc HS0.out
                rw [HTN.out]
                clear hbc
                go_wp2_with fail
                refine hK.out _ _ ?_ (fun _ => ?_)
                · exact HS7.out
                clear hK K
                try simp only [List.getElem_toArray, List.getElem_cons_succ, List.getElem_cons_zero, Act.put, List.setIfInBounds_toArray, List.set_cons_zero, List.set_cons_succ]
                refine wpAnyH_ready (rs := [8, 9]) (by kernel_rfl) (by simp) ?_
                refine AllReadyH.cons rfl (fun K hK => ?_) (AllReadyH.cons rfl (fun K hK => ?_) AllReadyH.nil)
                · go_simp
                  go_at_call 10
                  refine (implDrive_any _ _ _ N _ _ _ xs r.q r.at' (-r.way) r.far _ HWRT.out (wf_int (by omega) (by omega)) HWX.out (by omega) HNMS.out (by omega) HMMS.out hxl (HP7.out.later (heldB HS7.out)) (HJ7.out.later (heldB HS7.out)) (HIL7.out.later (heldB HS7.out))).mono ?_
                  rintro e wc8 ⟨y, hDA2, rfl, hbc⟩
                  have HS8 : Hid (BkX w7 wc8 bn w3.heap.size bb (.slice (some ⟨pb, po, none⟩) N.pcs.length pcap) (.slice ja N.jts.length jcap) (k : Int) at2 wy r) := keepBx hbc HS7.out
                  have HDY := hide hDA2
                  clear hDA2
                  clear hbc
                  go_wp2_with fail
                  refine hK.out _ _ ?_ (fun _ => ?_)
                  · exact HS8.out
                  clear hK K
                  try simp only [List.getElem_toArray, List.getElem_cons_succ, List.getElem_cons_zero, Act.put, List.setIfInBounds_toArray, List.set_cons_zero, List.set_cons_succ]
                  refine wpAnyH_ready (rs := [9]) (by kernel_rfl) (by simp) ?_
                  refine AllReadyH.cons rfl (fun K hK => ?_) AllReadyH.nil
                  go_simp
                  have hal := (Below.refl wc8.heap.size wc8).alloc (Nat.le_refl _) (.cells #[.int .i64 0, .int .i64 0, .int .i64 0, .int .i64 0, .int .i64 0, .int .i64 0] 35)
                  have hzA := (heldB HS8.out).size
                  have HS9 := hide (keepBx hal HS8.out)
                  clear hal
                  refine hK.out _ _ ?_ (fun _ => ?_)
                  · exact HS9.out
                  clear hK K
                  try simp only [List.getElem_toArray, List.getElem_cons_succ, List.getElem_cons_zero, Act.put, List.setIfInBounds_toArray, List.set_cons_zero, List.set_cons_succ]
                  refine wpAnyH_ready (rs := [10]) (by kernel_rfl) (by simp) ?_
                  refine AllReadyH.cons rfl (fun K hK => ?_) AllReadyH.nil
                  go_simp
                  refine hK.out _ _ ?_ (fun _ => ?_)
                  · exact keepBx ((Below.refl wc8.heap.size wc8).alloc (Nat.le_refl _) _) HS8.out
                  clear hK K
                  try simp only [List.getElem_toArray, List.getElem_cons_succ, List.getElem_cons_zero, Act.put, List.setIfInBounds_toArray, List.set_cons_zero, List.set_cons_succ]
                  refine wpAnyH_done (by kernel_rfl) ?_ _
                  go_wp2_with fail
                  go_meet
                  exact ⟨_, y, rfl, HDY.out, ⟨new_cell wc8 _ _ 0 _ rfl, new_cell wc8 _ _ 1 _ rfl, new_cell wc8 _ _ 2 _ rfl, new_cell wc8 _ _ 3 _ rfl, new_cell wc8 _ _ 4 _ rfl, new_cell wc8 _ _ 5 _ rfl⟩, keepBx ((Below.refl wc8.heap.size wc8).alloc (Nat.le_refl _) _) HS8.out⟩
                · go_simp
                  have hal := (Below.refl wc7.heap.size wc7).alloc (Nat.le_refl _) (.cells #[.int .i64 0, .int .i64 0, .int .i64 0, .int .i64 0, .int .i64 0, .int .i64 0] 35)
                  have hzA := (heldB HS7.out).size
                  have HS10 := hide (keepBx hal HS7.out)
                  clear hal
                  refine hK.out _ _ ?_ (fun _ => ?_)
                  · exact HS10.out
                  clear hK K
                  try simp only [List.getElem_toArray, List.getElem_cons_succ, List.getElem_cons_zero, Act.put, List.setIfInBounds_toArray, List.set_cons_zero, List.set_cons_succ]
                  refine wpAnyH_ready (rs := [8]) (by kernel_rfl) (by simp) ?_
                  refine AllReadyH.cons rfl (fun K hK => ?_) AllReadyH.nil
                  go_simp
                  go_at_call 10
                  refine (implDrive_any _ _ _ N _ _ _ xs r.q r.at' (-r.way) r.far _ HWRT.out (wf_int (by omega) (by omega)) HWX.out (by omega) HNMS.out (by omega) HMMS.out hxl (HP7.out.later (heldB HS10.out)) (HJ7.out.later (heldB HS10.out)) (HIL7.out.later (heldB HS10.out))).mono ?_
                  rintro e wc11 ⟨y, hDA2, rfl, hbc⟩
                  have HS11 : Hid (BkX w7 wc11 bn w3.heap.size bb (.slice (some ⟨pb, po, none⟩) N.pcs.length pcap) (.slice ja N.jts.length jcap) (k : Int) at2 wy r) := keepBx hbc HS10.out
                  have HDY := hide hDA2
                  clear hDA2
                  have y6_11 := hide (Six.later (six_new wc7 35) hbc)
                  clear hbc
                  go_wp2_with fail
                  refine hK.out _ _ ?_ (fun _ => ?_)
                  · exact HS11.out
                  clear hK K
                  try simp only [List.getElem_toArray, List.getElem_cons_succ, List.getElem_cons_zero, Act.put, List.setIfInBounds_toArray, List.set_cons_zero, List.set_cons_succ]
                  obtain ⟨r0, r1, r2, r3, r4, r5, g0, g1, g2, g3, g4, g5⟩ := y6_11.out
                  refine wpAnyH_ready (rs := [10]) (by kernel_rfl) (by simp) ?_
                  refine AllReadyH.cons rfl (fun K hK => ?_) AllReadyH.nil
                  rw [if_pos (by rfl)]
                  simp only [List.getElem_toArray, List.getElem_cons_succ, List.getElem_cons_zero]
                  go_big_op
                  refine hK.out _ _ ?_ (fun _ => ?_)
                  · exact keepBx6 HS11.out hzA hb7n hb7s hb7b y
                  clear hK K
                  try simp only [List.getElem_toArray, List.getElem_cons_succ, List.getElem_cons_zero, Act.put, List.setIfInBounds_toArray, List.set_cons_zero, List.set_cons_succ]
                  refine wpAnyH_done (by kernel_rfl) ?_ _
                  go_wp2_with fail
                  go_meet
                  exact ⟨_, y, rfl, HDY.out, In6.put y6_11.out y, keepBx6 HS11.out hzA hb7n hb7s hb7b y⟩
              · go_simp
                have hal := (Below.refl wd.heap.size wd).alloc (Nat.le_refl _) (.cells #[.int .i64 0, .int .i64 0, .int .i64 0, .int .i64 0, .int .i64 0, .int .i64 0] 35)
                have hzA := (heldB HS0.out).size
                have HS12 := hide (keepBx hal HS0.out)
                clear hal
                refine hK.out _ _ ?_ (fun _ => ?_)
                · exact HS12.out
                clear hK K
                try simp only [List.getElem_toArray, List.getElem_cons_succ, List.getElem_cons_zero, Act.put, List.setIfInBounds_toArray, List.set_cons_zero, List.set_cons_succ]
                refine wpAnyH_ready (rs := [5]) (by kernel_rfl) (by simp) ?_
                refine AllReadyH.cons rfl (fun K hK => ?_) AllReadyH.nil
                go_simp
                go_at_call 14
                refine (implTurn_any _ _ N _ _ r.q r.at' r.way _ HWR.out (by omega) HNMS.out (by omega) HMMS.out (HP7.out.later (heldB HS12.out)) (HJ7.out.later (heldB HS12.out))).mono ?_
                rintro e wc13 ⟨rfl, hbc⟩
                have HS13 : Hid (BkX w7 wc13 bn w3.heap.size bb (.slice (some ⟨pb, po, none⟩) N.pcs.length pcap) (.slice ja N.jts.length jcap) (k : Int) at2 wy r) := keepBx hbc HS12.out
                rw [HTN.out]
                have y6_13 := hide (Six.later (six_new wd 35) hbc)
                clear hbc
                go_wp2_with fail
                refine hK.out _ _ ?_ (fun _ => ?_)
                · exact HS13.out
                clear hK K
                try simp only [List.getElem_toArray, List.getElem_cons_succ, List.getElem_cons_zero, Act.put, List.setIfInBounds_toArray, List.set_cons_zero, List.set_cons_succ]
                refine wpAnyH_ready (rs := [8]) (by kernel_rfl) (by simp) ?_
                refine AllReadyH.cons rfl (fun K hK => ?_) AllReadyH.nil
                go_simp
                go_at_call 10
                refine (implDrive_any _ _ _ N _ _ _ xs r.q r.at' (-r.way) r.far _ HWRT.out (wf_int (by omega) (by omega)) HWX.out (by omega) HNMS.out (by omega) HMMS.out hxl (HP7.out.later (heldB HS13.out)) (HJ7.out.later (heldB HS13.out)) (HIL7.out.later (heldB HS13.out))).mono ?_
                rintro e wc14 ⟨y, hDA2, rfl, hbc⟩
                have HS14 : Hid (BkX w7 wc14 bn w3.heap.size bb (.slice (some ⟨pb, po, none⟩) N.pcs.length pcap) (.slice ja N.jts.length jcap) (k : Int) at2 wy r) := keepBx hbc HS13.out
                have HDY := hide hDA2
                clear hDA2
                have y6_14 := hide (y6_13.out.later hbc)
                clear hbc
                go_wp2_with fail
                refine hK.out _ _ ?_ (fun _ => ?_)
                · exact HS14.out
                clear hK K
                try simp only [List.getElem_toArray, List.getElem_cons_succ, List.getElem_cons_zero, Act.put, List.setIfInBounds_toArray, List.set_cons_zero, List.set_cons_succ]
                obtain ⟨r0, r1, r2, r3, r4, r5, g0, g1, g2, g3, g4, g5⟩ := y6_14.out
                refine wpAnyH_ready (rs := [10]) (by kernel_rfl) (by simp) ?_
                refine AllReadyH.cons rfl (fun K hK => ?_) AllReadyH.nil
                rw [if_pos (by rfl)]
                simp only [List.getElem_toArray, List.getElem_cons_succ, List.getElem_cons_zero]
                go_big_op
                refine hK.out _ _ ?_ (fun _ => ?_)
                · exact keepBx6 HS14.out hzA hb7n hb7s hb7b y
                clear hK K
                try simp only [List.getElem_toArray, List.getElem_cons_succ, List.getElem_cons_zero, Act.put, List.setIfInBounds_toArray, List.set_cons_zero, List.set_cons_succ]
                refine wpAnyH_done (by kernel_rfl) ?_ _
                go_wp2_with fail
                go_meet
                exact ⟨_, y, rfl, HDY.out, In6.put y6_14.out y, keepBx6 HS14.out hzA hb7n hb7s hb7b y⟩
            case rest =>
              obtain ⟨b9, y, rfl, hDY, hY6, hBX⟩ := hcut
              rename World => w8
              obtain ⟨e0, e1, e3, e4, e5⟩ := back_home HDA.out H4.out HRM.out hDY
              obtain ⟨yc, yf, yj, yq, ya, yw, yp⟩ := y
              dsimp only at e0 e1 e3 e4 e5 hY6
              subst e0
              subst e1
              subst e3
              have e4 := e4.symm
              subst e4
              subst e5
              have h78 := heldB hBX
              have HP8 := hide (HP7.out.later h78)
              have HJ8 := hide (HJ7.out.later h78)
              have HBW8 := hide (HBW7.out.trans (h78.mono HBW7.out.size))
              have HSY : Hid (BkY w8 w8 bn w3.heap.size bb b9 (.slice (some ⟨pb, po, none⟩) N.pcs.length pcap) (.slice ja N.jts.length jcap) (k : Int) at2 wy r ⟨0, r.far, yj, (k : Int), at2, -wy, yp⟩) := ⟨⟨hBX.1.1, hBX.1.2.1, hBX.1.2.2, hY6⟩, Below.refl _ _⟩
              clear hDY hY6 hBX h78 HSX HP7 HJ7 HIL7 HZ7 HBW7
              have h8 : Below w8.heap.size w8 w8.drew := (Below.refl _ _).drew
              go_upto_region 14 with fail
              go_region_held3 (fun w' => BkY w8 w' bn w3.heap.size bb b9 (.slice (some ⟨pb, po, none⟩) N.pcs.length pcap) (.slice ja N.jts.length jcap) (k : Int) at2 wy r ⟨0, r.far, yj, (k : Int), at2, -wy, yp⟩)
                (first
                  | (exact keepBy h8 HSY.out)
                  | (exact keepBy (by assumption) (by assumption)))
                (first
                  | (go_at_call 14; refine (implTurn_any _ _ N _ _ (k : Int) at2 wy _ HWF.out (by omega) HNMS.out (by omega) HMMS.out (HP8.out.later h8) (HJ8.out.later h8)).mono ?_; rintro e w9 ⟨rfl, hb9⟩; rw [HTS.out]; dsimp only))
              rename_i hH
              have HBF := hide (HBW8.out.trans ((heldB hH).mono HBW8.out.size))
              go_wp2_with fail
              go_ret
              exact ⟨rfl, HBF.out⟩
  · have qw : (wy == 1) = false := by rw [beq_eq_false_iff_ne]; exact h1
    have HW1 := hide (show wy = -1 from HWY.out.resolve_left h1)
    have qw2 : (wy == -1) = true := by rw [beq_iff_eq]; exact HW1.out
    clear h1
    by_cases hat : at' = 0
    · have qa : (at' == 0) = true := by rw [beq_iff_eq]; exact hat
      clear hat
      go_upto_region 6 with fail
      go_quiet (fail)
      go_upto_region 10 with fail
      have hm6 : Mid w3.heap.size (w3.heap.size + 1) w5 ((w5.drewN nq).setCell ⟨w3.heap.size, 1, none⟩ (.int .i64 L)) := (mid_drewN w5 nq).setCell (Nat.le_refl _) (by omega) _
      have hex : ∃ at2, Box3 ((w5.drewN nq).setCell ⟨w3.heap.size, 1, none⟩ (.int .i64 L)) w3.heap.size k at2 wy ∧ spotP N k at2 wy = true ∧ ¬ roomP N k at2 wy = 0 := by
        refine ⟨L, ⟨by simp [go_sem, s0], by simp [go_sem, s1], by simp [go_sem, s2]⟩, spot_of hkl HWY.out (by omega) (by rw [HL.out]; omega), ?_⟩
        unfold roomP
        rw [if_neg (by have := HW1.out; omega)]
        omega
      generalize ((w5.drewN nq).setCell ⟨w3.heap.size, 1, none⟩ (.int .i64 L)) = w6 at *
      have HOW6 := hide (owns_mid HOW5.out hm6 (by omega))
      have HB36 := hide (HB35.out.trans (hm6.below (by omega)))
      have HBW6 := hide (HBW5.out.trans ((hm6.below (by omega)).mono hw3))
      have n0 := hm6.cell (.inl hbn) n0
      have n1 := hm6.cell (.inl hbn) n1
      obtain ⟨at2, hB3, hsp2, hrm2⟩ := hex
      obtain ⟨z2, zc2, hzv2, hIL⟩ := ints_of_owns HOW6.out
      obtain ⟨rfl, rfl⟩ : z' = z2 ∧ zc' = zc2 := by simpa using hzv2
      have HSP2 := hide hsp2
      have HRM := hide hrm2
      have HIL6 := hide hIL
      have HP6 := hide (HP3.out.later HB36.out)
      have HJ6 := hide (HJ3.out.later HB36.out)
      have HZ6 := hide (HZ.out.later HBW6.out)
      have hb6n := cell_lt n0
      have hb6s := cell_lt hB3.1
      have HWF := hide (show Wf3 (k : Int) at2 wy by
        have h := HSP2.out
        have hw := spot_way h
        have hl := lenAt_le HNB.out k
        simp only [spotP, inR, Bool.and_eq_true, decide_eq_true_eq] at h
        exact ⟨wf_int (by omega) (by omega), wf_int (by omega) (by omega), wf_int (by omega) (by omega)⟩)
      have HNMS := HS9
      have HMMS := HM9
      have HST : Hid (BkS w6 w6 bn w3.heap.size (.slice (some ⟨pb, po, none⟩) N.pcs.length pcap) (.slice ja N.jts.length jcap) (k : Int) at2 wy) := ⟨⟨⟨n0, n1⟩, hB3⟩, Below.refl _ _⟩
      clear hm6 hB3 hsp2 hrm2 hIL hzv2 HOW5 HOW6 HB35 HB36 HBW5 HP3 HJ3 s0 s1 s2 sf p1 n0 n1 qa
      go_cut [8] (fun s8 wx => ∃ (bb : Nat) (r : DRes), s8 = .pointer (some ⟨bb, 0, none⟩) ∧ DriveA N xs (k : Int) at2 wy A r ∧ In6 wx bb r ∧ BkS w6 wx bn w3.heap.size (.slice (some ⟨pb, po, none⟩) N.pcs.length pcap) (.slice ja N.jts.length jcap) (k : Int) at2 wy)
      case first =>
        refine wp_region_held_drew (S := fun wx => BkS w6 wx bn w3.heap.size (.slice (some ⟨pb, po, none⟩) N.pcs.length pcap) (.slice ja N.jts.length jcap) (k : Int) at2 wy) (by kernel_rfl) ?_ (fun _ => ?_)
        · exact keepBk ((Below.refl _ _).drew) HST.out
        have HS0 : Hid (BkS w6 w6.drew bn w3.heap.size (.slice (some ⟨pb, po, none⟩) N.pcs.length pcap) (.slice ja N.jts.length jcap) (k : Int) at2 wy) := keepBk ((Below.refl _ _).drew) HST.out
        generalize w6.drew = wd at *
        refine wpAnyH_take (i := 0) (v := ?vc15) rfl (by kernel_rfl) (by kernel_rfl) (by kernel_rfl) (fun _ _ _ h => h) (Or.inl ⟨by rfl, ?hyc15⟩) HS0.out ?restc15
        case hyc15 => (intro w hSw; (try dsimp only at hSw); go_simp; try with_reducible rfl)
        try simp only [List.getElem_toArray, List.getElem_cons_succ, List.getElem_cons_zero, Act.put, List.setIfInBounds_toArray, List.set_cons_zero, List.set_cons_succ]
        refine wpAnyH_take (i := 1) (v := ?vc16) rfl (by kernel_rfl) (by kernel_rfl) (by kernel_rfl) (fun _ _ _ h => h) (Or.inl ⟨by rfl, ?hyc16⟩) HS0.out ?restc16
        case hyc16 => (intro w hSw; (try dsimp only at hSw); go_simp; try with_reducible rfl)
        try simp only [List.getElem_toArray, List.getElem_cons_succ, List.getElem_cons_zero, Act.put, List.setIfInBounds_toArray, List.set_cons_zero, List.set_cons_succ]
        refine wpAnyH_take (i := 2) (v := ?vc17) rfl (by kernel_rfl) (by kernel_rfl) (by kernel_rfl) (fun _ _ _ h => h) (Or.inl ⟨by rfl, ?hyc17⟩) HS0.out ?restc17
        case hyc17 => (intro w hSw; (try dsimp only at hSw); go_simp; try with_reducible rfl)
        try simp only [List.getElem_toArray, List.getElem_cons_succ, List.getElem_cons_zero, Act.put, List.setIfInBounds_toArray, List.set_cons_zero, List.set_cons_succ]
        refine wpAnyH_take (i := 3) (v := ?vc18) rfl (by kernel_rfl) (by kernel_rfl) (by kernel_rfl) (fun _ _ _ h => h) (Or.inl ⟨by rfl, ?hyc18⟩) HS0.out ?restc18
        case hyc18 => (intro w hSw; (try dsimp only at hSw); go_simp; try with_reducible rfl)
        try simp only [List.getElem_toArray, List.getElem_cons_succ, List.getElem_cons_zero, Act.put, List.setIfInBounds_toArray, List.set_cons_zero, List.set_cons_succ]
        refine wpAnyH_ready (rs := [4, 6]) (by kernel_rfl) (by simp) ?_
        refine AllReadyH.cons rfl (fun K hK => ?_) (AllReadyH.cons rfl (fun K hK => ?_) AllReadyH.nil)
        · go_simp
          go_at_call 9
          refine (HWW.out _ (HZ6.out.later (heldB HS0.out))).mono ?_
          rintro e wc19 ⟨rfl, hbc⟩
          have HS19 : Hid (BkS w6 wc19 bn w3.heap.size (.slice (some ⟨pb, po, none⟩) N.pcs.length pcap) (.slice ja N.jts.length jcap) (k : Int) at2 wy) := keepBk hbc HS0.out
          clear hbc
          go_wp2_with fail
          refine hK.out _ _ ?_ (fun _ => ?_)
          · exact HS19.out
          clear hK K
          try simp only [List.getElem_toArray, List.getElem_cons_succ, List.getElem_cons_zero, Act.put, List.setIfInBounds_toArray, List.set_cons_zero, List.set_cons_succ]
          refine wpAnyH_ready (rs := [5, 6]) (by kernel_rfl) (by simp) ?_
          refine AllReadyH.cons rfl (fun K hK => ?_) (AllReadyH.cons rfl (fun K hK => ?_) AllReadyH.nil)
          · go_simp
            go_at_call 10
            refine (implDrive_any _ _ _ N _ _ _ xs (k : Int) at2 wy A _ HWF.out (wf_int (by omega) (by omega)) HWX.out (by omega) HNMS.out (by omega) HMMS.out hxl (HP6.out.later (heldB HS19.out)) (HJ6.out.later (heldB HS19.out)) (HIL6.out.later (heldB HS19.out))).mono ?_
            rintro e wc20 ⟨r, hDA, rfl, hbc⟩
            have HS20 : Hid (BkS w6 wc20 bn w3.heap.size (.slice (some ⟨pb, po, none⟩) N.pcs.length pcap) (.slice ja N.jts.length jcap) (k : Int) at2 wy) := keepBk hbc HS19.out
            have HDA := hide hDA
            clear hDA
            clear hbc
            go_wp2_with fail
            refine hK.out _ _ ?_ (fun _ => ?_)
            · exact HS20.out
            clear hK K
            try simp only [List.getElem_toArray, List.getElem_cons_succ, List.getElem_cons_zero, Act.put, List.setIfInBounds_toArray, List.set_cons_zero, List.set_cons_succ]
            refine wpAnyH_ready (rs := [6]) (by kernel_rfl) (by simp) ?_
            refine AllReadyH.cons rfl (fun K hK => ?_) AllReadyH.nil
            go_simp
            have hal := (Below.refl wc20.heap.size wc20).alloc (Nat.le_refl _) (.cells #[.int .i64 0, .int .i64 0, .int .i64 0, .int .i64 0, .int .i64 0, .int .i64 0] 35)
            have hzA := (heldB HS20.out).size
            have HS21 := hide (keepBk hal HS20.out)
            clear hal
            refine hK.out _ _ ?_ (fun _ => ?_)
            · exact HS21.out
            clear hK K
            try simp only [List.getElem_toArray, List.getElem_cons_succ, List.getElem_cons_zero, Act.put, List.setIfInBounds_toArray, List.set_cons_zero, List.set_cons_succ]
            refine wpAnyH_ready (rs := [7]) (by kernel_rfl) (by simp) ?_
            refine AllReadyH.cons rfl (fun K hK => ?_) AllReadyH.nil
            go_simp
            refine hK.out _ _ ?_ (fun _ => ?_)
            · exact keepBk ((Below.refl wc20.heap.size wc20).alloc (Nat.le_refl _) _) HS20.out
            clear hK K
            try simp only [List.getElem_toArray, List.getElem_cons_succ, List.getElem_cons_zero, Act.put, List.setIfInBounds_toArray, List.set_cons_zero, List.set_cons_succ]
            refine wpAnyH_done (by kernel_rfl) ?_ _
            go_wp2_with fail
            go_meet
            exact ⟨_, r, rfl, HDA.out, ⟨new_cell wc20 _ _ 0 _ rfl, new_cell wc20 _ _ 1 _ rfl, new_cell wc20 _ _ 2 _ rfl, new_cell wc20 _ _ 3 _ rfl, new_cell wc20 _ _ 4 _ rfl, new_cell wc20 _ _ 5 _ rfl⟩, keepBk ((Below.refl wc20.heap.size wc20).alloc (Nat.le_refl _) _) HS20.out⟩
          · go_simp
            have hal := (Below.refl wc19.heap.size wc19).alloc (Nat.le_refl _) (.cells #[.int .i64 0, .int .i64 0, .int .i64 0, .int .i64 0, .int .i64 0, .int .i64 0] 35)
            have hzA := (heldB HS19.out).size
            have HS22 := hide (keepBk hal HS19.out)
            clear hal
            refine hK.out _ _ ?_ (fun _ => ?_)
            · exact HS22.out
            clear hK K
            try simp only [List.getElem_toArray, List.getElem_cons_succ, List.getElem_cons_zero, Act.put, List.setIfInBounds_toArray, List.set_cons_zero, List.set_cons_succ]
            refine wpAnyH_ready (rs := [5]) (by kernel_rfl) (by simp) ?_
            refine AllReadyH.cons rfl (fun K hK => ?_) AllReadyH.nil
            go_simp
            go_at_call 10
            refine (implDrive_any _ _ _ N _ _ _ xs (k : Int) at2 wy A _ HWF.out (wf_int (by omega) (by omega)) HWX.out (by omega) HNMS.out (by omega) HMMS.out hxl (HP6.out.later (heldB HS22.out)) (HJ6.out.later (heldB HS22.out)) (HIL6.out.later (heldB HS22.out))).mono ?_
            rintro e wc23 ⟨r, hDA, rfl, hbc⟩
            have HS23 : Hid (BkS w6 wc23 bn w3.heap.size (.slice (some ⟨pb, po, none⟩) N.pcs.length pcap) (.slice ja N.jts.length jcap) (k : Int) at2 wy) := keepBk hbc HS22.out
            have HDA := hide hDA
            clear hDA
            have y6_23 := hide (Six.later (six_new wc19 35) hbc)
            clear hbc
            go_wp2_with fail
            refine hK.out _ _ ?_ (fun _ => ?_)
            · exact HS23.out
            clear hK K
            try simp only [List.getElem_toArray, List.getElem_cons_succ, List.getElem_cons_zero, Act.put, List.setIfInBounds_toArray, List.set_cons_zero, List.set_cons_succ]
            obtain ⟨r0, r1, r2, r3, r4, r5, g0, g1, g2, g3, g4, g5⟩ := y6_23.out
            refine wpAnyH_ready (rs := [7]) (by kernel_rfl) (by simp) ?_
            refine AllReadyH.cons rfl (fun K hK => ?_) AllReadyH.nil
            rw [if_pos (by rfl)]
            simp only [List.getElem_toArray, List.getElem_cons_succ, List.getElem_cons_zero]
            go_big_op
            refine hK.out _ _ ?_ (fun _ => ?_)
            · exact keepBk6 HS23.out hzA hb6n hb6s r
            clear hK K
            try simp only [List.getElem_toArray, List.getElem_cons_succ, List.getElem_cons_zero, Act.put, List.setIfInBounds_toArray, List.set_cons_zero, List.set_cons_succ]
            refine wpAnyH_done (by kernel_rfl) ?_ _
            go_wp2_with fail
            go_meet
            exact ⟨_, r, rfl, HDA.out, In6.put y6_23.out r, keepBk6 HS23.out hzA hb6n hb6s r⟩
        · go_simp
          have hal := (Below.refl wd.heap.size wd).alloc (Nat.le_refl _) (.cells #[.int .i64 0, .int .i64 0, .int .i64 0, .int .i64 0, .int .i64 0, .int .i64 0] 35)
          have hzA := (heldB HS0.out).size
          have HS24 := hide (keepBk hal HS0.out)
          clear hal
          refine hK.out _ _ ?_ (fun _ => ?_)
          · exact HS24.out
          clear hK K
          try simp only [List.getElem_toArray, List.getElem_cons_succ, List.getElem_cons_zero, Act.put, List.setIfInBounds_toArray, List.set_cons_zero, List.set_cons_succ]
          refine wpAnyH_ready (rs := [4]) (by kernel_rfl) (by simp) ?_
          refine AllReadyH.cons rfl (fun K hK => ?_) AllReadyH.nil
          go_simp
          go_at_call 9
          refine (HWW.out _ (HZ6.out.later (heldB HS24.out))).mono ?_
          rintro e wc25 ⟨rfl, hbc⟩
          have HS25 : Hid (BkS w6 wc25 bn w3.heap.size (.slice (some ⟨pb, po, none⟩) N.pcs.length pcap) (.slice ja N.jts.length jcap) (k : Int) at2 wy) := keepBk hbc HS24.out
          have y6_25 := hide (Six.later (six_new wd 35) hbc)
          clear hbc
          go_wp2_with fail
          refine hK.out _ _ ?_ (fun _ => ?_)
          · exact HS25.out
          clear hK K
          try simp only [List.getElem_toArray, List.getElem_cons_succ, List.getElem_cons_zero, Act.put, List.setIfInBounds_toArray, List.set_cons_zero, List.set_cons_succ]
          refine wpAnyH_ready (rs := [5]) (by kernel_rfl) (by simp) ?_
          refine AllReadyH.cons rfl (fun K hK => ?_) AllReadyH.nil
          go_simp
          go_at_call 10
          refine (implDrive_any _ _ _ N _ _ _ xs (k : Int) at2 wy A _ HWF.out (wf_int (by omega) (by omega)) HWX.out (by omega) HNMS.out (by omega) HMMS.out hxl (HP6.out.later (heldB HS25.out)) (HJ6.out.later (heldB HS25.out)) (HIL6.out.later (heldB HS25.out))).mono ?_
          rintro e wc26 ⟨r, hDA, rfl, hbc⟩
          have HS26 : Hid (BkS w6 wc26 bn w3.heap.size (.slice (some ⟨pb, po, none⟩) N.pcs.length pcap) (.slice ja N.jts.length jcap) (k : Int) at2 wy) := keepBk hbc HS25.out
          have HDA := hide hDA
          clear hDA
          have y6_26 := hide (y6_25.out.later hbc)
          clear hbc
          go_wp2_with fail
          refine hK.out _ _ ?_ (fun _ => ?_)
          · exact HS26.out
          clear hK K
          try simp only [List.getElem_toArray, List.getElem_cons_succ, List.getElem_cons_zero, Act.put, List.setIfInBounds_toArray, List.set_cons_zero, List.set_cons_succ]
          obtain ⟨r0, r1, r2, r3, r4, r5, g0, g1, g2, g3, g4, g5⟩ := y6_26.out
          refine wpAnyH_ready (rs := [7]) (by kernel_rfl) (by simp) ?_
          refine AllReadyH.cons rfl (fun K hK => ?_) AllReadyH.nil
          rw [if_pos (by rfl)]
          simp only [List.getElem_toArray, List.getElem_cons_succ, List.getElem_cons_zero]
          go_big_op
          refine hK.out _ _ ?_ (fun _ => ?_)
          · exact keepBk6 HS26.out hzA hb6n hb6s r
          clear hK K
          try simp only [List.getElem_toArray, List.getElem_cons_succ, List.getElem_cons_zero, Act.put, List.setIfInBounds_toArray, List.set_cons_zero, List.set_cons_succ]
          refine wpAnyH_done (by kernel_rfl) ?_ _
          go_wp2_with fail
          go_meet
          exact ⟨_, r, rfl, HDA.out, In6.put y6_26.out r, keepBk6 HS26.out hzA hb6n hb6s r⟩
      case rest =>
        obtain ⟨bb, r, rfl, hDA, hI6, hBK⟩ := hcut
        rename World => w7
        have HDA := hide hDA
        have h67 := heldB hBK
        have HP7 := hide (HP6.out.later h67)
        have HJ7 := hide (HJ6.out.later h67)
        have HIL7 := hide (HIL6.out.later h67)
        have HZ7 := hide (HZ6.out.later h67)
        have HBW7 := hide (HBW6.out.trans (h67.mono HBW6.out.size))
        have HSX : Hid (BkX w7 w7 bn w3.heap.size bb (.slice (some ⟨pb, po, none⟩) N.pcs.length pcap) (.slice ja N.jts.length jcap) (k : Int) at2 wy r) := ⟨⟨hBK.1.1, hBK.1.2, hI6⟩, Below.refl _ _⟩
        have hb7n := cell_lt hBK.1.1.1
        have hb7s := cell_lt hBK.1.2.1
        have hb7b := cell_lt hI6.1
        obtain ⟨x0, x1, x2, x3, x4, x5⟩ := hI6
        clear hDA hBK h67 HST HP6 HJ6 HIL6 HZ6 HBW6
        by_cases h4 : r.code = 4
        · have q4 : (r.code == 4) = true := by rw [beq_iff_eq]; exact h4
          clear h4
          go_upto_region 12 with fail
          have h7 : Below w7.heap.size w7 w7.drew := (Below.refl _ _).drew
          go_region_held3 (fun w' => BkX w7 w' bn w3.heap.size bb (.slice (some ⟨pb, po, none⟩) N.pcs.length pcap) (.slice ja N.jts.length jcap) (k : Int) at2 wy r)
            (first
              | (exact keepBx h7 HSX.out)
              | (exact keepBx (by assumption) (by assumption)))
            (first
              | (go_at_call 9; refine (HWW.out _ (HZ7.out.later h7)).mono ?_; rintro e w8 ⟨rfl, hb8⟩)
              | (go_at_call 11; refine (specDrive_any _ _ _ N _ _ _ xs (k : Int) at2 wy A _ (by omega) HNMS.out (by omega) HMMS.out hxl (HP7.out.later (chn h7 hb8)) (HJ7.out.later (chn h7 hb8)) (HIL7.out.later (chn h7 hb8))).mono ?_; rintro e w9 ⟨r', hr', rfl, hb9⟩; obtain rfl := driveA_one HDA.out hr'))
          rename_i hH
          have HBF := hide (HBW7.out.trans ((heldB hH).mono HBW7.out.size))
          go_wp2_with fail
          go_ret
          exact ⟨rfl, HBF.out⟩
        · by_cases h0 : r.far = 0
          · have q4 : (r.code == 4) = false := by rw [beq_eq_false_iff_ne]; exact h4
            have q0 : (r.far == 0) = true := by rw [beq_iff_eq]; exact h0
            clear h4 h0
            go_upto_region 12 with fail
            have h7 : Below w7.heap.size w7 w7.drew := (Below.refl _ _).drew
            go_region_held3 (fun w' => BkX w7 w' bn w3.heap.size bb (.slice (some ⟨pb, po, none⟩) N.pcs.length pcap) (.slice ja N.jts.length jcap) (k : Int) at2 wy r)
              (first
                | (exact keepBx h7 HSX.out)
                | (exact keepBx (by assumption) (by assumption)))
              (first
                | (go_at_call 9; refine (HWW.out _ (HZ7.out.later h7)).mono ?_; rintro e w8 ⟨rfl, hb8⟩)
                | (go_at_call 11; refine (specDrive_any _ _ _ N _ _ _ xs (k : Int) at2 wy A _ (by omega) HNMS.out (by omega) HMMS.out hxl (HP7.out.later (chn h7 hb8)) (HJ7.out.later (chn h7 hb8)) (HIL7.out.later (chn h7 hb8))).mono ?_; rintro e w9 ⟨r', hr', rfl, hb9⟩; obtain rfl := driveA_one HDA.out hr'))
            rename_i hH
            have HBF := hide (HBW7.out.trans ((heldB hH).mono HBW7.out.size))
            go_wp2_with fail
            go_ret
            exact ⟨rfl, HBF.out⟩
          · have q4 : (r.code == 4) = false := by rw [beq_eq_false_iff_ne]; exact h4
            have q0 : (r.far == 0) = false := by rw [beq_eq_false_iff_ne]; exact h0
            have hsx := driveA_spot HDA.out h4
            have hgx := good_all (driveA_code HDA.out h4)
            have hrf : 0 ≤ r.far ∧ r.far ≤ 10200 := by omega
            have HWR := hide (show Wf3 r.q r.at' r.way by
              have h := hsx.1
              have hw := spot_way h
              have hl := lenAt_le HNB.out r.q
              simp only [spotP, inR, Bool.and_eq_true, decide_eq_true_eq] at h
              exact ⟨wf_int (by omega) (by omega), wf_int (by omega) (by omega), wf_int (by omega) (by omega)⟩)
            have HWRT := hide (show Wf3 r.q r.at' (-r.way) by
              have hw := spot_way hsx.1
              exact ⟨HWR.out.1, HWR.out.2.1, wf_int (by omega) (by omega)⟩)
            have HTN := hide (show turnP N r.q r.at' r.way = (r.q, r.at', -r.way) by
              unfold turnP spotOkP
              rw [hgx.1, hsx.1]
              rfl)
            have HTS := hide (show turnP N (k : Int) at2 wy = ((k : Int), at2, -wy) by
              unfold turnP spotOkP
              rw [hgx.1, HSP2.out]
              rfl)
            have H4 := hide h4
            clear h4 h0 hsx hgx
            go_upto_region 13 with fail
            clear x0 x1 x2 x3 x4 x5
            go_cut [9] (fun s9 wx => ∃ (b9 : Nat) (y : DRes), s9 = .pointer (some ⟨b9, 0, none⟩) ∧ DriveA N xs r.q r.at' (-r.way) r.far y ∧ In6 wx b9 y ∧ BkX w7 wx bn w3.heap.size bb (.slice (some ⟨pb, po, none⟩) N.pcs.length pcap) (.slice ja N.jts.length jcap) (k : Int) at2 wy r)
            case first =>
              refine wp_region_held_drew (S := fun wx => BkX w7 wx bn w3.heap.size bb (.slice (some ⟨pb, po, none⟩) N.pcs.length pcap) (.slice ja N.jts.length jcap) (k : Int) at2 wy r) (by kernel_rfl) ?_ (fun _ => ?_)
              · exact keepBx ((Below.refl _ _).drew) HSX.out
              have HS0 : Hid (BkX w7 w7.drew bn w3.heap.size bb (.slice (some ⟨pb, po, none⟩) N.pcs.length pcap) (.slice ja N.jts.length jcap) (k : Int) at2 wy r) := keepBx ((Below.refl _ _).drew) HSX.out
              generalize w7.drew = wd at *
              refine wpAnyH_take (i := 0) (v := ?vc0) rfl (by kernel_rfl) (by kernel_rfl) (by kernel_rfl) (fun _ _ _ h => h) (Or.inl ⟨by rfl, ?hyc0⟩) HS0.out ?restc0
              case hyc0 => (intro w hSw; (try dsimp only at hSw); go_simp; try with_reducible rfl)
              try simp only [List.getElem_toArray, List.getElem_cons_succ, List.getElem_cons_zero, Act.put, List.setIfInBounds_toArray, List.set_cons_zero, List.set_cons_succ]
              refine wpAnyH_take (i := 1) (v := ?vc1) rfl (by kernel_rfl) (by kernel_rfl) (by kernel_rfl) (fun _ _ _ h => h) (Or.inl ⟨by rfl, ?hyc1⟩) HS0.out ?restc1
              case hyc1 => (intro w hSw; (try dsimp only at hSw); go_simp; try with_reducible rfl)
              try simp only [List.getElem_toArray, List.getElem_cons_succ, List.getElem_cons_zero, Act.put, List.setIfInBounds_toArray, List.set_cons_zero, List.set_cons_succ]
              refine wpAnyH_take (i := 2) (v := ?vc2) rfl (by kernel_rfl) (by kernel_rfl) (by kernel_rfl) (fun _ _ _ h => h) (Or.inl ⟨by rfl, ?hyc2⟩) HS0.out ?restc2
              case hyc2 => (intro w hSw; (try dsimp only at hSw); go_simp; try with_reducible rfl)
              try simp only [List.getElem_toArray, List.getElem_cons_succ, List.getElem_cons_zero, Act.put, List.setIfInBounds_toArray, List.set_cons_zero, List.set_cons_succ]
              refine wpAnyH_take (i := 3) (v := ?vc3) rfl (by kernel_rfl) (by kernel_rfl) (by kernel_rfl) (fun _ _ _ h => h) (Or.inl ⟨by rfl, ?hyc3⟩) HS0.out ?restc3
              case hyc3 => (intro w hSw; (try dsimp only at hSw); go_simp; try with_reducible rfl)
              try simp only [List.getElem_toArray, List.getElem_cons_succ, List.getElem_cons_zero, Act.put, List.setIfInBounds_toArray, List.set_cons_zero, List.set_cons_succ]
              refine wpAnyH_take (i := 4) (v := ?vc4) rfl (by kernel_rfl) (by kernel_rfl) (by kernel_rfl) (fun _ _ _ h => h) (Or.inl ⟨by rfl, ?hyc4⟩) HS0.out ?restc4
              case hyc4 => (intro w hSw; (try dsimp only at hSw); go_simp; try with_reducible rfl)
              try simp only [List.getElem_toArray, List.getElem_cons_succ, List.getElem_cons_zero, Act.put, List.setIfInBounds_toArray, List.set_cons_zero, List.set_cons_succ]
              refine wpAnyH_take (i := 6) (v := ?vc5) rfl (by kernel_rfl) (by kernel_rfl) (by kernel_rfl) (fun _ _ _ h => h) (Or.inl ⟨by rfl, ?hyc5⟩) HS0.out ?restc5
              case hyc5 => (intro w hSw; (try dsimp only at hSw); go_simp; try with_reducible rfl)
              try simp only [List.getElem_toArray, List.getElem_cons_succ, List.getElem_cons_zero, Act.put, List.setIfInBounds_toArray, List.set_cons_zero, List.set_cons_succ]
              refine wpAnyH_take (i := 7) (v := ?vc6) rfl (by kernel_rfl) (by kernel_rfl) (by kernel_rfl) (fun _ _ _ h => h) (Or.inl ⟨by rfl, ?hyc6⟩) HS0.out ?restc6
              case hyc6 => (intro w hSw; (try dsimp only at hSw); go_simp; try with_reducible rfl)
              try simp only [List.getElem_toArray, List.getElem_cons_succ, List.getElem_cons_zero, Act.put, List.setIfInBounds_toArray, List.set_cons_zero, List.set_cons_succ]
              refine wpAnyH_ready (rs := [5, 9]) (by kernel_rfl) (by simp) ?_
              refine AllReadyH.cons rfl (fun K hK => ?_) (AllReadyH.cons rfl (fun K hK => ?_) AllReadyH.nil)
              · go_simp
                go_at_call 14
                refine (implTurn_any _ _ N _ _ r.q r.at' r.way _ HWR.out (by omega) HNMS.out (by omega) HMMS.out (HP7.out.later (heldB HS0.out)) (HJ7.out.later (heldB HS0.out))).mono ?_
                rintro e wc7 ⟨rfl, hbc⟩
                have HS7 : Hid (BkX w7 wc7 bn w3.heap.size bb (.slice (some ⟨pb, po, none⟩) N.pcs.length pcap) (.slice ja N.jts.length jcap) (k : Int) at2 wy r) := keepBx hbc HS0.out
                rw [HTN.out]
                clear hbc
                go_wp2_with fail
                refine hK.out _ _ ?_ (fun _ => ?_)
                · exact HS7.out
                clear hK K
                try simp only [List.getElem_toArray, List.getElem_cons_succ, List.getElem_cons_zero, Act.put, List.setIfInBounds_toArray, List.set_cons_zero, List.set_cons_succ]
                refine wpAnyH_ready (rs := [8, 9]) (by kernel_rfl) (by simp) ?_
                refine AllReadyH.cons rfl (fun K hK => ?_) (AllReadyH.cons rfl (fun K hK => ?_) AllReadyH.nil)
                · go_simp
                  go_at_call 10
                  refine (implDrive_any _ _ _ N _ _ _ xs r.q r.at' (-r.way) r.far _ HWRT.out (wf_int (by omega) (by omega)) HWX.out (by omega) HNMS.out (by omega) HMMS.out hxl (HP7.out.later (heldB HS7.out)) (HJ7.out.later (heldB HS7.out)) (HIL7.out.later (heldB HS7.out))).mono ?_
                  rintro e wc8 ⟨y, hDA2, rfl, hbc⟩
                  have HS8 : Hid (BkX w7 wc8 bn w3.heap.size bb (.slice (some ⟨pb, po, none⟩) N.pcs.length pcap) (.slice ja N.jts.length jcap) (k : Int) at2 wy r) := keepBx hbc HS7.out
                  have HDY := hide hDA2
                  clear hDA2
                  clear hbc
                  go_wp2_with fail
                  refine hK.out _ _ ?_ (fun _ => ?_)
                  · exact HS8.out
                  clear hK K
                  try simp only [List.getElem_toArray, List.getElem_cons_succ, List.getElem_cons_zero, Act.put, List.setIfInBounds_toArray, List.set_cons_zero, List.set_cons_succ]
                  refine wpAnyH_ready (rs := [9]) (by kernel_rfl) (by simp) ?_
                  refine AllReadyH.cons rfl (fun K hK => ?_) AllReadyH.nil
                  go_simp
                  have hal := (Below.refl wc8.heap.size wc8).alloc (Nat.le_refl _) (.cells #[.int .i64 0, .int .i64 0, .int .i64 0, .int .i64 0, .int .i64 0, .int .i64 0] 35)
                  have hzA := (heldB HS8.out).size
                  have HS9 := hide (keepBx hal HS8.out)
                  clear hal
                  refine hK.out _ _ ?_ (fun _ => ?_)
                  · exact HS9.out
                  clear hK K
                  try simp only [List.getElem_toArray, List.getElem_cons_succ, List.getElem_cons_zero, Act.put, List.setIfInBounds_toArray, List.set_cons_zero, List.set_cons_succ]
                  refine wpAnyH_ready (rs := [10]) (by kernel_rfl) (by simp) ?_
                  refine AllReadyH.cons rfl (fun K hK => ?_) AllReadyH.nil
                  go_simp
                  refine hK.out _ _ ?_ (fun _ => ?_)
                  · exact keepBx ((Below.refl wc8.heap.size wc8).alloc (Nat.le_refl _) _) HS8.out
                  clear hK K
                  try simp only [List.getElem_toArray, List.getElem_cons_succ, List.getElem_cons_zero, Act.put, List.setIfInBounds_toArray, List.set_cons_zero, List.set_cons_succ]
                  refine wpAnyH_done (by kernel_rfl) ?_ _
                  go_wp2_with fail
                  go_meet
                  exact ⟨_, y, rfl, HDY.out, ⟨new_cell wc8 _ _ 0 _ rfl, new_cell wc8 _ _ 1 _ rfl, new_cell wc8 _ _ 2 _ rfl, new_cell wc8 _ _ 3 _ rfl, new_cell wc8 _ _ 4 _ rfl, new_cell wc8 _ _ 5 _ rfl⟩, keepBx ((Below.refl wc8.heap.size wc8).alloc (Nat.le_refl _) _) HS8.out⟩
                · go_simp
                  have hal := (Below.refl wc7.heap.size wc7).alloc (Nat.le_refl _) (.cells #[.int .i64 0, .int .i64 0, .int .i64 0, .int .i64 0, .int .i64 0, .int .i64 0] 35)
                  have hzA := (heldB HS7.out).size
                  have HS10 := hide (keepBx hal HS7.out)
                  clear hal
                  refine hK.out _ _ ?_ (fun _ => ?_)
                  · exact HS10.out
                  clear hK K
                  try simp only [List.getElem_toArray, List.getElem_cons_succ, List.getElem_cons_zero, Act.put, List.setIfInBounds_toArray, List.set_cons_zero, List.set_cons_succ]
                  refine wpAnyH_ready (rs := [8]) (by kernel_rfl) (by simp) ?_
                  refine AllReadyH.cons rfl (fun K hK => ?_) AllReadyH.nil
                  go_simp
                  go_at_call 10
                  refine (implDrive_any _ _ _ N _ _ _ xs r.q r.at' (-r.way) r.far _ HWRT.out (wf_int (by omega) (by omega)) HWX.out (by omega) HNMS.out (by omega) HMMS.out hxl (HP7.out.later (heldB HS10.out)) (HJ7.out.later (heldB HS10.out)) (HIL7.out.later (heldB HS10.out))).mono ?_
                  rintro e wc11 ⟨y, hDA2, rfl, hbc⟩
                  have HS11 : Hid (BkX w7 wc11 bn w3.heap.size bb (.slice (some ⟨pb, po, none⟩) N.pcs.length pcap) (.slice ja N.jts.length jcap) (k : Int) at2 wy r) := keepBx hbc HS10.out
                  have HDY := hide hDA2
                  clear hDA2
                  have y6_11 := hide (Six.later (six_new wc7 35) hbc)
                  clear hbc
                  go_wp2_with fail
                  refine hK.out _ _ ?_ (fun _ => ?_)
                  · exact HS11.out
                  clear hK K
                  try simp only [List.getElem_toArray, List.getElem_cons_succ, List.getElem_cons_zero, Act.put, List.setIfInBounds_toArray, List.set_cons_zero, List.set_cons_succ]
                  obtain ⟨r0, r1, r2, r3, r4, r5, g0, g1, g2, g3, g4, g5⟩ := y6_11.out
                  refine wpAnyH_ready (rs := [10]) (by kernel_rfl) (by simp) ?_
                  refine AllReadyH.cons rfl (fun K hK => ?_) AllReadyH.nil
                  rw [if_pos (by rfl)]
                  simp only [List.getElem_toArray, List.getElem_cons_succ, List.getElem_cons_zero]
                  go_big_op
                  refine hK.out _ _ ?_ (fun _ => ?_)
                  · exact keepBx6 HS11.out hzA hb7n hb7s hb7b y
                  clear hK K
                  try simp only [List.getElem_toArray, List.getElem_cons_succ, List.getElem_cons_zero, Act.put, List.setIfInBounds_toArray, List.set_cons_zero, List.set_cons_succ]
                  refine wpAnyH_done (by kernel_rfl) ?_ _
                  go_wp2_with fail
                  go_meet
                  exact ⟨_, y, rfl, HDY.out, In6.put y6_11.out y, keepBx6 HS11.out hzA hb7n hb7s hb7b y⟩
              · go_simp
                have hal := (Below.refl wd.heap.size wd).alloc (Nat.le_refl _) (.cells #[.int .i64 0, .int .i64 0, .int .i64 0, .int .i64 0, .int .i64 0, .int .i64 0] 35)
                have hzA := (heldB HS0.out).size
                have HS12 := hide (keepBx hal HS0.out)
                clear hal
                refine hK.out _ _ ?_ (fun _ => ?_)
                · exact HS12.out
                clear hK K
                try simp only [List.getElem_toArray, List.getElem_cons_succ, List.getElem_cons_zero, Act.put, List.setIfInBounds_toArray, List.set_cons_zero, List.set_cons_succ]
                refine wpAnyH_ready (rs := [5]) (by kernel_rfl) (by simp) ?_
                refine AllReadyH.cons rfl (fun K hK => ?_) AllReadyH.nil
                go_simp
                go_at_call 14
                refine (implTurn_any _ _ N _ _ r.q r.at' r.way _ HWR.out (by omega) HNMS.out (by omega) HMMS.out (HP7.out.later (heldB HS12.out)) (HJ7.out.later (heldB HS12.out))).mono ?_
                rintro e wc13 ⟨rfl, hbc⟩
                have HS13 : Hid (BkX w7 wc13 bn w3.heap.size bb (.slice (some ⟨pb, po, none⟩) N.pcs.length pcap) (.slice ja N.jts.length jcap) (k : Int) at2 wy r) := keepBx hbc HS12.out
                rw [HTN.out]
                have y6_13 := hide (Six.later (six_new wd 35) hbc)
                clear hbc
                go_wp2_with fail
                refine hK.out _ _ ?_ (fun _ => ?_)
                · exact HS13.out
                clear hK K
                try simp only [List.getElem_toArray, List.getElem_cons_succ, List.getElem_cons_zero, Act.put, List.setIfInBounds_toArray, List.set_cons_zero, List.set_cons_succ]
                refine wpAnyH_ready (rs := [8]) (by kernel_rfl) (by simp) ?_
                refine AllReadyH.cons rfl (fun K hK => ?_) AllReadyH.nil
                go_simp
                go_at_call 10
                refine (implDrive_any _ _ _ N _ _ _ xs r.q r.at' (-r.way) r.far _ HWRT.out (wf_int (by omega) (by omega)) HWX.out (by omega) HNMS.out (by omega) HMMS.out hxl (HP7.out.later (heldB HS13.out)) (HJ7.out.later (heldB HS13.out)) (HIL7.out.later (heldB HS13.out))).mono ?_
                rintro e wc14 ⟨y, hDA2, rfl, hbc⟩
                have HS14 : Hid (BkX w7 wc14 bn w3.heap.size bb (.slice (some ⟨pb, po, none⟩) N.pcs.length pcap) (.slice ja N.jts.length jcap) (k : Int) at2 wy r) := keepBx hbc HS13.out
                have HDY := hide hDA2
                clear hDA2
                have y6_14 := hide (y6_13.out.later hbc)
                clear hbc
                go_wp2_with fail
                refine hK.out _ _ ?_ (fun _ => ?_)
                · exact HS14.out
                clear hK K
                try simp only [List.getElem_toArray, List.getElem_cons_succ, List.getElem_cons_zero, Act.put, List.setIfInBounds_toArray, List.set_cons_zero, List.set_cons_succ]
                obtain ⟨r0, r1, r2, r3, r4, r5, g0, g1, g2, g3, g4, g5⟩ := y6_14.out
                refine wpAnyH_ready (rs := [10]) (by kernel_rfl) (by simp) ?_
                refine AllReadyH.cons rfl (fun K hK => ?_) AllReadyH.nil
                rw [if_pos (by rfl)]
                simp only [List.getElem_toArray, List.getElem_cons_succ, List.getElem_cons_zero]
                go_big_op
                refine hK.out _ _ ?_ (fun _ => ?_)
                · exact keepBx6 HS14.out hzA hb7n hb7s hb7b y
                clear hK K
                try simp only [List.getElem_toArray, List.getElem_cons_succ, List.getElem_cons_zero, Act.put, List.setIfInBounds_toArray, List.set_cons_zero, List.set_cons_succ]
                refine wpAnyH_done (by kernel_rfl) ?_ _
                go_wp2_with fail
                go_meet
                exact ⟨_, y, rfl, HDY.out, In6.put y6_14.out y, keepBx6 HS14.out hzA hb7n hb7s hb7b y⟩
            case rest =>
              obtain ⟨b9, y, rfl, hDY, hY6, hBX⟩ := hcut
              rename World => w8
              obtain ⟨e0, e1, e3, e4, e5⟩ := back_home HDA.out H4.out HRM.out hDY
              obtain ⟨yc, yf, yj, yq, ya, yw, yp⟩ := y
              dsimp only at e0 e1 e3 e4 e5 hY6
              subst e0
              subst e1
              subst e3
              have e4 := e4.symm
              subst e4
              subst e5
              have h78 := heldB hBX
              have HP8 := hide (HP7.out.later h78)
              have HJ8 := hide (HJ7.out.later h78)
              have HBW8 := hide (HBW7.out.trans (h78.mono HBW7.out.size))
              have HSY : Hid (BkY w8 w8 bn w3.heap.size bb b9 (.slice (some ⟨pb, po, none⟩) N.pcs.length pcap) (.slice ja N.jts.length jcap) (k : Int) at2 wy r ⟨0, r.far, yj, (k : Int), at2, -wy, yp⟩) := ⟨⟨hBX.1.1, hBX.1.2.1, hBX.1.2.2, hY6⟩, Below.refl _ _⟩
              clear hDY hY6 hBX h78 HSX HP7 HJ7 HIL7 HZ7 HBW7
              have h8 : Below w8.heap.size w8 w8.drew := (Below.refl _ _).drew
              go_upto_region 14 with fail
              go_region_held3 (fun w' => BkY w8 w' bn w3.heap.size bb b9 (.slice (some ⟨pb, po, none⟩) N.pcs.length pcap) (.slice ja N.jts.length jcap) (k : Int) at2 wy r ⟨0, r.far, yj, (k : Int), at2, -wy, yp⟩)
                (first
                  | (exact keepBy h8 HSY.out)
                  | (exact keepBy (by assumption) (by assumption)))
                (first
                  | (go_at_call 14; refine (implTurn_any _ _ N _ _ (k : Int) at2 wy _ HWF.out (by omega) HNMS.out (by omega) HMMS.out (HP8.out.later h8) (HJ8.out.later h8)).mono ?_; rintro e w9 ⟨rfl, hb9⟩; rw [HTS.out]; dsimp only))
              rename_i hH
              have HBF := hide (HBW8.out.trans ((heldB hH).mono HBW8.out.size))
              go_wp2_with fail
              go_ret
              exact ⟨rfl, HBF.out⟩
    · have qa : (at' == 0) = false := by rw [beq_eq_false_iff_ne]; exact hat
      have HAT := hide hat
      clear hat
      go_upto_region 6 with fail
      go_quiet (fail)
      go_upto_region 10 with fail
      have hm6 : Mid w3.heap.size (w3.heap.size + 1) w5 (w5.drewN nq) := mid_drewN w5 nq
      have hex : ∃ at2, Box3 (w5.drewN nq) w3.heap.size k at2 wy ∧ spotP N k at2 wy = true ∧ ¬ roomP N k at2 wy = 0 := by
        refine ⟨at', ⟨s0, s1, s2⟩, spot_of hkl HWY.out (by omega) (by rw [HL.out]; omega), ?_⟩
        unfold roomP
        rw [if_neg (by have := HW1.out; omega)]
        have := HAT.out; omega
      generalize (w5.drewN nq) = w6 at *
      have HOW6 := hide (owns_mid HOW5.out hm6 (by omega))
      have HB36 := hide (HB35.out.trans (hm6.below (by omega)))
      have HBW6 := hide (HBW5.out.trans ((hm6.below (by omega)).mono hw3))
      have n0 := hm6.cell (.inl hbn) n0
      have n1 := hm6.cell (.inl hbn) n1
      obtain ⟨at2, hB3, hsp2, hrm2⟩ := hex
      obtain ⟨z2, zc2, hzv2, hIL⟩ := ints_of_owns HOW6.out
      obtain ⟨rfl, rfl⟩ : z' = z2 ∧ zc' = zc2 := by simpa using hzv2
      have HSP2 := hide hsp2
      have HRM := hide hrm2
      have HIL6 := hide hIL
      have HP6 := hide (HP3.out.later HB36.out)
      have HJ6 := hide (HJ3.out.later HB36.out)
      have HZ6 := hide (HZ.out.later HBW6.out)
      have hb6n := cell_lt n0
      have hb6s := cell_lt hB3.1
      have HWF := hide (show Wf3 (k : Int) at2 wy by
        have h := HSP2.out
        have hw := spot_way h
        have hl := lenAt_le HNB.out k
        simp only [spotP, inR, Bool.and_eq_true, decide_eq_true_eq] at h
        exact ⟨wf_int (by omega) (by omega), wf_int (by omega) (by omega), wf_int (by omega) (by omega)⟩)
      have HNMS := HS9
      have HMMS := HM9
      have HST : Hid (BkS w6 w6 bn w3.heap.size (.slice (some ⟨pb, po, none⟩) N.pcs.length pcap) (.slice ja N.jts.length jcap) (k : Int) at2 wy) := ⟨⟨⟨n0, n1⟩, hB3⟩, Below.refl _ _⟩
      clear hm6 hB3 hsp2 hrm2 hIL hzv2 HOW5 HOW6 HB35 HB36 HBW5 HP3 HJ3 s0 s1 s2 sf p1 n0 n1 qa
      go_cut [8] (fun s8 wx => ∃ (bb : Nat) (r : DRes), s8 = .pointer (some ⟨bb, 0, none⟩) ∧ DriveA N xs (k : Int) at2 wy A r ∧ In6 wx bb r ∧ BkS w6 wx bn w3.heap.size (.slice (some ⟨pb, po, none⟩) N.pcs.length pcap) (.slice ja N.jts.length jcap) (k : Int) at2 wy)
      case first =>
        refine wp_region_held_drew (S := fun wx => BkS w6 wx bn w3.heap.size (.slice (some ⟨pb, po, none⟩) N.pcs.length pcap) (.slice ja N.jts.length jcap) (k : Int) at2 wy) (by kernel_rfl) ?_ (fun _ => ?_)
        · exact keepBk ((Below.refl _ _).drew) HST.out
        have HS0 : Hid (BkS w6 w6.drew bn w3.heap.size (.slice (some ⟨pb, po, none⟩) N.pcs.length pcap) (.slice ja N.jts.length jcap) (k : Int) at2 wy) := keepBk ((Below.refl _ _).drew) HST.out
        generalize w6.drew = wd at *
        refine wpAnyH_take (i := 0) (v := ?vd15) rfl (by kernel_rfl) (by kernel_rfl) (by kernel_rfl) (fun _ _ _ h => h) (Or.inl ⟨by rfl, ?hyd15⟩) HS0.out ?restd15
        case hyd15 => (intro w hSw; (try dsimp only at hSw); go_simp; try with_reducible rfl)
        try simp only [List.getElem_toArray, List.getElem_cons_succ, List.getElem_cons_zero, Act.put, List.setIfInBounds_toArray, List.set_cons_zero, List.set_cons_succ]
        refine wpAnyH_take (i := 1) (v := ?vd16) rfl (by kernel_rfl) (by kernel_rfl) (by kernel_rfl) (fun _ _ _ h => h) (Or.inl ⟨by rfl, ?hyd16⟩) HS0.out ?restd16
        case hyd16 => (intro w hSw; (try dsimp only at hSw); go_simp; try with_reducible rfl)
        try simp only [List.getElem_toArray, List.getElem_cons_succ, List.getElem_cons_zero, Act.put, List.setIfInBounds_toArray, List.set_cons_zero, List.set_cons_succ]
        refine wpAnyH_take (i := 2) (v := ?vd17) rfl (by kernel_rfl) (by kernel_rfl) (by kernel_rfl) (fun _ _ _ h => h) (Or.inl ⟨by rfl, ?hyd17⟩) HS0.out ?restd17
        case hyd17 => (intro w hSw; (try dsimp only at hSw); go_simp; try with_reducible rfl)
        try simp only [List.getElem_toArray, List.getElem_cons_succ, List.getElem_cons_zero, Act.put, List.setIfInBounds_toArray, List.set_cons_zero, List.set_cons_succ]
        refine wpAnyH_take (i := 3) (v := ?vd18) rfl (by kernel_rfl) (by kernel_rfl) (by kernel_rfl) (fun _ _ _ h => h) (Or.inl ⟨by rfl, ?hyd18⟩) HS0.out ?restd18
        case hyd18 => (intro w hSw; (try dsimp only at hSw); go_simp; try with_reducible rfl)
        try simp only [List.getElem_toArray, List.getElem_cons_succ, List.getElem_cons_zero, Act.put, List.setIfInBounds_toArray, List.set_cons_zero, List.set_cons_succ]
        refine wpAnyH_ready (rs := [4, 6]) (by kernel_rfl) (by simp) ?_
        refine AllReadyH.cons rfl (fun K hK => ?_) (AllReadyH.cons rfl (fun K hK => ?_) AllReadyH.nil)
        · go_simp
          go_at_call 9
          refine (HWW.out _ (HZ6.out.later (heldB HS0.out))).mono ?_
          rintro e wc19 ⟨rfl, hbc⟩
          have HS19 : Hid (BkS w6 wc19 bn w3.heap.size (.slice (some ⟨pb, po, none⟩) N.pcs.length pcap) (.slice ja N.jts.length jcap) (k : Int) at2 wy) := keepBk hbc HS0.out
          clear hbc
          go_wp2_with fail
          refine hK.out _ _ ?_ (fun _ => ?_)
          · exact HS19.out
          clear hK K
          try simp only [List.getElem_toArray, List.getElem_cons_succ, List.getElem_cons_zero, Act.put, List.setIfInBounds_toArray, List.set_cons_zero, List.set_cons_succ]
          refine wpAnyH_ready (rs := [5, 6]) (by kernel_rfl) (by simp) ?_
          refine AllReadyH.cons rfl (fun K hK => ?_) (AllReadyH.cons rfl (fun K hK => ?_) AllReadyH.nil)
          · go_simp
            go_at_call 10
            refine (implDrive_any _ _ _ N _ _ _ xs (k : Int) at2 wy A _ HWF.out (wf_int (by omega) (by omega)) HWX.out (by omega) HNMS.out (by omega) HMMS.out hxl (HP6.out.later (heldB HS19.out)) (HJ6.out.later (heldB HS19.out)) (HIL6.out.later (heldB HS19.out))).mono ?_
            rintro e wc20 ⟨r, hDA, rfl, hbc⟩
            have HS20 : Hid (BkS w6 wc20 bn w3.heap.size (.slice (some ⟨pb, po, none⟩) N.pcs.length pcap) (.slice ja N.jts.length jcap) (k : Int) at2 wy) := keepBk hbc HS19.out
            have HDA := hide hDA
            clear hDA
            clear hbc
            go_wp2_with fail
            refine hK.out _ _ ?_ (fun _ => ?_)
            · exact HS20.out
            clear hK K
            try simp only [List.getElem_toArray, List.getElem_cons_succ, List.getElem_cons_zero, Act.put, List.setIfInBounds_toArray, List.set_cons_zero, List.set_cons_succ]
            refine wpAnyH_ready (rs := [6]) (by kernel_rfl) (by simp) ?_
            refine AllReadyH.cons rfl (fun K hK => ?_) AllReadyH.nil
            go_simp
            have hal := (Below.refl wc20.heap.size wc20).alloc (Nat.le_refl _) (.cells #[.int .i64 0, .int .i64 0, .int .i64 0, .int .i64 0, .int .i64 0, .int .i64 0] 35)
            have hzA := (heldB HS20.out).size
            have HS21 := hide (keepBk hal HS20.out)
            clear hal
            refine hK.out _ _ ?_ (fun _ => ?_)
            · exact HS21.out
            clear hK K
            try simp only [List.getElem_toArray, List.getElem_cons_succ, List.getElem_cons_zero, Act.put, List.setIfInBounds_toArray, List.set_cons_zero, List.set_cons_succ]
            refine wpAnyH_ready (rs := [7]) (by kernel_rfl) (by simp) ?_
            refine AllReadyH.cons rfl (fun K hK => ?_) AllReadyH.nil
            go_simp
            refine hK.out _ _ ?_ (fun _ => ?_)
            · exact keepBk ((Below.refl wc20.heap.size wc20).alloc (Nat.le_refl _) _) HS20.out
            clear hK K
            try simp only [List.getElem_toArray, List.getElem_cons_succ, List.getElem_cons_zero, Act.put, List.setIfInBounds_toArray, List.set_cons_zero, List.set_cons_succ]
            refine wpAnyH_done (by kernel_rfl) ?_ _
            go_wp2_with fail
            go_meet
            exact ⟨_, r, rfl, HDA.out, ⟨new_cell wc20 _ _ 0 _ rfl, new_cell wc20 _ _ 1 _ rfl, new_cell wc20 _ _ 2 _ rfl, new_cell wc20 _ _ 3 _ rfl, new_cell wc20 _ _ 4 _ rfl, new_cell wc20 _ _ 5 _ rfl⟩, keepBk ((Below.refl wc20.heap.size wc20).alloc (Nat.le_refl _) _) HS20.out⟩
          · go_simp
            have hal := (Below.refl wc19.heap.size wc19).alloc (Nat.le_refl _) (.cells #[.int .i64 0, .int .i64 0, .int .i64 0, .int .i64 0, .int .i64 0, .int .i64 0] 35)
            have hzA := (heldB HS19.out).size
            have HS22 := hide (keepBk hal HS19.out)
            clear hal
            refine hK.out _ _ ?_ (fun _ => ?_)
            · exact HS22.out
            clear hK K
            try simp only [List.getElem_toArray, List.getElem_cons_succ, List.getElem_cons_zero, Act.put, List.setIfInBounds_toArray, List.set_cons_zero, List.set_cons_succ]
            refine wpAnyH_ready (rs := [5]) (by kernel_rfl) (by simp) ?_
            refine AllReadyH.cons rfl (fun K hK => ?_) AllReadyH.nil
            go_simp
            go_at_call 10
            refine (implDrive_any _ _ _ N _ _ _ xs (k : Int) at2 wy A _ HWF.out (wf_int (by omega) (by omega)) HWX.out (by omega) HNMS.out (by omega) HMMS.out hxl (HP6.out.later (heldB HS22.out)) (HJ6.out.later (heldB HS22.out)) (HIL6.out.later (heldB HS22.out))).mono ?_
            rintro e wc23 ⟨r, hDA, rfl, hbc⟩
            have HS23 : Hid (BkS w6 wc23 bn w3.heap.size (.slice (some ⟨pb, po, none⟩) N.pcs.length pcap) (.slice ja N.jts.length jcap) (k : Int) at2 wy) := keepBk hbc HS22.out
            have HDA := hide hDA
            clear hDA
            have y6_23 := hide (Six.later (six_new wc19 35) hbc)
            clear hbc
            go_wp2_with fail
            refine hK.out _ _ ?_ (fun _ => ?_)
            · exact HS23.out
            clear hK K
            try simp only [List.getElem_toArray, List.getElem_cons_succ, List.getElem_cons_zero, Act.put, List.setIfInBounds_toArray, List.set_cons_zero, List.set_cons_succ]
            obtain ⟨r0, r1, r2, r3, r4, r5, g0, g1, g2, g3, g4, g5⟩ := y6_23.out
            refine wpAnyH_ready (rs := [7]) (by kernel_rfl) (by simp) ?_
            refine AllReadyH.cons rfl (fun K hK => ?_) AllReadyH.nil
            rw [if_pos (by rfl)]
            simp only [List.getElem_toArray, List.getElem_cons_succ, List.getElem_cons_zero]
            go_big_op
            refine hK.out _ _ ?_ (fun _ => ?_)
            · exact keepBk6 HS23.out hzA hb6n hb6s r
            clear hK K
            try simp only [List.getElem_toArray, List.getElem_cons_succ, List.getElem_cons_zero, Act.put, List.setIfInBounds_toArray, List.set_cons_zero, List.set_cons_succ]
            refine wpAnyH_done (by kernel_rfl) ?_ _
            go_wp2_with fail
            go_meet
            exact ⟨_, r, rfl, HDA.out, In6.put y6_23.out r, keepBk6 HS23.out hzA hb6n hb6s r⟩
        · go_simp
          have hal := (Below.refl wd.heap.size wd).alloc (Nat.le_refl _) (.cells #[.int .i64 0, .int .i64 0, .int .i64 0, .int .i64 0, .int .i64 0, .int .i64 0] 35)
          have hzA := (heldB HS0.out).size
          have HS24 := hide (keepBk hal HS0.out)
          clear hal
          refine hK.out _ _ ?_ (fun _ => ?_)
          · exact HS24.out
          clear hK K
          try simp only [List.getElem_toArray, List.getElem_cons_succ, List.getElem_cons_zero, Act.put, List.setIfInBounds_toArray, List.set_cons_zero, List.set_cons_succ]
          refine wpAnyH_ready (rs := [4]) (by kernel_rfl) (by simp) ?_
          refine AllReadyH.cons rfl (fun K hK => ?_) AllReadyH.nil
          go_simp
          go_at_call 9
          refine (HWW.out _ (HZ6.out.later (heldB HS24.out))).mono ?_
          rintro e wc25 ⟨rfl, hbc⟩
          have HS25 : Hid (BkS w6 wc25 bn w3.heap.size (.slice (some ⟨pb, po, none⟩) N.pcs.length pcap) (.slice ja N.jts.length jcap) (k : Int) at2 wy) := keepBk hbc HS24.out
          have y6_25 := hide (Six.later (six_new wd 35) hbc)
          clear hbc
          go_wp2_with fail
          refine hK.out _ _ ?_ (fun _ => ?_)
          · exact HS25.out
          clear hK K
          try simp only [List.getElem_toArray, List.getElem_cons_succ, List.getElem_cons_zero, Act.put, List.setIfInBounds_toArray, List.set_cons_zero, List.set_cons_succ]
          refine wpAnyH_ready (rs := [5]) (by kernel_rfl) (by simp) ?_
          refine AllReadyH.cons rfl (fun K hK => ?_) AllReadyH.nil
          go_simp
          go_at_call 10
          refine (implDrive_any _ _ _ N _ _ _ xs (k : Int) at2 wy A _ HWF.out (wf_int (by omega) (by omega)) HWX.out (by omega) HNMS.out (by omega) HMMS.out hxl (HP6.out.later (heldB HS25.out)) (HJ6.out.later (heldB HS25.out)) (HIL6.out.later (heldB HS25.out))).mono ?_
          rintro e wc26 ⟨r, hDA, rfl, hbc⟩
          have HS26 : Hid (BkS w6 wc26 bn w3.heap.size (.slice (some ⟨pb, po, none⟩) N.pcs.length pcap) (.slice ja N.jts.length jcap) (k : Int) at2 wy) := keepBk hbc HS25.out
          have HDA := hide hDA
          clear hDA
          have y6_26 := hide (y6_25.out.later hbc)
          clear hbc
          go_wp2_with fail
          refine hK.out _ _ ?_ (fun _ => ?_)
          · exact HS26.out
          clear hK K
          try simp only [List.getElem_toArray, List.getElem_cons_succ, List.getElem_cons_zero, Act.put, List.setIfInBounds_toArray, List.set_cons_zero, List.set_cons_succ]
          obtain ⟨r0, r1, r2, r3, r4, r5, g0, g1, g2, g3, g4, g5⟩ := y6_26.out
          refine wpAnyH_ready (rs := [7]) (by kernel_rfl) (by simp) ?_
          refine AllReadyH.cons rfl (fun K hK => ?_) AllReadyH.nil
          rw [if_pos (by rfl)]
          simp only [List.getElem_toArray, List.getElem_cons_succ, List.getElem_cons_zero]
          go_big_op
          refine hK.out _ _ ?_ (fun _ => ?_)
          · exact keepBk6 HS26.out hzA hb6n hb6s r
          clear hK K
          try simp only [List.getElem_toArray, List.getElem_cons_succ, List.getElem_cons_zero, Act.put, List.setIfInBounds_toArray, List.set_cons_zero, List.set_cons_succ]
          refine wpAnyH_done (by kernel_rfl) ?_ _
          go_wp2_with fail
          go_meet
          exact ⟨_, r, rfl, HDA.out, In6.put y6_26.out r, keepBk6 HS26.out hzA hb6n hb6s r⟩
      case rest =>
        obtain ⟨bb, r, rfl, hDA, hI6, hBK⟩ := hcut
        rename World => w7
        have HDA := hide hDA
        have h67 := heldB hBK
        have HP7 := hide (HP6.out.later h67)
        have HJ7 := hide (HJ6.out.later h67)
        have HIL7 := hide (HIL6.out.later h67)
        have HZ7 := hide (HZ6.out.later h67)
        have HBW7 := hide (HBW6.out.trans (h67.mono HBW6.out.size))
        have HSX : Hid (BkX w7 w7 bn w3.heap.size bb (.slice (some ⟨pb, po, none⟩) N.pcs.length pcap) (.slice ja N.jts.length jcap) (k : Int) at2 wy r) := ⟨⟨hBK.1.1, hBK.1.2, hI6⟩, Below.refl _ _⟩
        have hb7n := cell_lt hBK.1.1.1
        have hb7s := cell_lt hBK.1.2.1
        have hb7b := cell_lt hI6.1
        obtain ⟨x0, x1, x2, x3, x4, x5⟩ := hI6
        clear hDA hBK h67 HST HP6 HJ6 HIL6 HZ6 HBW6
        by_cases h4 : r.code = 4
        · have q4 : (r.code == 4) = true := by rw [beq_iff_eq]; exact h4
          clear h4
          go_upto_region 12 with fail
          have h7 : Below w7.heap.size w7 w7.drew := (Below.refl _ _).drew
          go_region_held3 (fun w' => BkX w7 w' bn w3.heap.size bb (.slice (some ⟨pb, po, none⟩) N.pcs.length pcap) (.slice ja N.jts.length jcap) (k : Int) at2 wy r)
            (first
              | (exact keepBx h7 HSX.out)
              | (exact keepBx (by assumption) (by assumption)))
            (first
              | (go_at_call 9; refine (HWW.out _ (HZ7.out.later h7)).mono ?_; rintro e w8 ⟨rfl, hb8⟩)
              | (go_at_call 11; refine (specDrive_any _ _ _ N _ _ _ xs (k : Int) at2 wy A _ (by omega) HNMS.out (by omega) HMMS.out hxl (HP7.out.later (chn h7 hb8)) (HJ7.out.later (chn h7 hb8)) (HIL7.out.later (chn h7 hb8))).mono ?_; rintro e w9 ⟨r', hr', rfl, hb9⟩; obtain rfl := driveA_one HDA.out hr'))
          rename_i hH
          have HBF := hide (HBW7.out.trans ((heldB hH).mono HBW7.out.size))
          go_wp2_with fail
          go_ret
          exact ⟨rfl, HBF.out⟩
        · by_cases h0 : r.far = 0
          · have q4 : (r.code == 4) = false := by rw [beq_eq_false_iff_ne]; exact h4
            have q0 : (r.far == 0) = true := by rw [beq_iff_eq]; exact h0
            clear h4 h0
            go_upto_region 12 with fail
            have h7 : Below w7.heap.size w7 w7.drew := (Below.refl _ _).drew
            go_region_held3 (fun w' => BkX w7 w' bn w3.heap.size bb (.slice (some ⟨pb, po, none⟩) N.pcs.length pcap) (.slice ja N.jts.length jcap) (k : Int) at2 wy r)
              (first
                | (exact keepBx h7 HSX.out)
                | (exact keepBx (by assumption) (by assumption)))
              (first
                | (go_at_call 9; refine (HWW.out _ (HZ7.out.later h7)).mono ?_; rintro e w8 ⟨rfl, hb8⟩)
                | (go_at_call 11; refine (specDrive_any _ _ _ N _ _ _ xs (k : Int) at2 wy A _ (by omega) HNMS.out (by omega) HMMS.out hxl (HP7.out.later (chn h7 hb8)) (HJ7.out.later (chn h7 hb8)) (HIL7.out.later (chn h7 hb8))).mono ?_; rintro e w9 ⟨r', hr', rfl, hb9⟩; obtain rfl := driveA_one HDA.out hr'))
            rename_i hH
            have HBF := hide (HBW7.out.trans ((heldB hH).mono HBW7.out.size))
            go_wp2_with fail
            go_ret
            exact ⟨rfl, HBF.out⟩
          · have q4 : (r.code == 4) = false := by rw [beq_eq_false_iff_ne]; exact h4
            have q0 : (r.far == 0) = false := by rw [beq_eq_false_iff_ne]; exact h0
            have hsx := driveA_spot HDA.out h4
            have hgx := good_all (driveA_code HDA.out h4)
            have hrf : 0 ≤ r.far ∧ r.far ≤ 10200 := by omega
            have HWR := hide (show Wf3 r.q r.at' r.way by
              have h := hsx.1
              have hw := spot_way h
              have hl := lenAt_le HNB.out r.q
              simp only [spotP, inR, Bool.and_eq_true, decide_eq_true_eq] at h
              exact ⟨wf_int (by omega) (by omega), wf_int (by omega) (by omega), wf_int (by omega) (by omega)⟩)
            have HWRT := hide (show Wf3 r.q r.at' (-r.way) by
              have hw := spot_way hsx.1
              exact ⟨HWR.out.1, HWR.out.2.1, wf_int (by omega) (by omega)⟩)
            have HTN := hide (show turnP N r.q r.at' r.way = (r.q, r.at', -r.way) by
              unfold turnP spotOkP
              rw [hgx.1, hsx.1]
              rfl)
            have HTS := hide (show turnP N (k : Int) at2 wy = ((k : Int), at2, -wy) by
              unfold turnP spotOkP
              rw [hgx.1, HSP2.out]
              rfl)
            have H4 := hide h4
            clear h4 h0 hsx hgx
            go_upto_region 13 with fail
            clear x0 x1 x2 x3 x4 x5
            go_cut [9] (fun s9 wx => ∃ (b9 : Nat) (y : DRes), s9 = .pointer (some ⟨b9, 0, none⟩) ∧ DriveA N xs r.q r.at' (-r.way) r.far y ∧ In6 wx b9 y ∧ BkX w7 wx bn w3.heap.size bb (.slice (some ⟨pb, po, none⟩) N.pcs.length pcap) (.slice ja N.jts.length jcap) (k : Int) at2 wy r)
            case first =>
              refine wp_region_held_drew (S := fun wx => BkX w7 wx bn w3.heap.size bb (.slice (some ⟨pb, po, none⟩) N.pcs.length pcap) (.slice ja N.jts.length jcap) (k : Int) at2 wy r) (by kernel_rfl) ?_ (fun _ => ?_)
              · exact keepBx ((Below.refl _ _).drew) HSX.out
              have HS0 : Hid (BkX w7 w7.drew bn w3.heap.size bb (.slice (some ⟨pb, po, none⟩) N.pcs.length pcap) (.slice ja N.jts.length jcap) (k : Int) at2 wy r) := keepBx ((Below.refl _ _).drew) HSX.out
              generalize w7.drew = wd at *
              refine wpAnyH_take (i := 0) (v := ?vd0) rfl (by kernel_rfl) (by kernel_rfl) (by kernel_rfl) (fun _ _ _ h => h) (Or.inl ⟨by rfl, ?hyd0⟩) HS0.out ?restd0
              case hyd0 => (intro w hSw; (try dsimp only at hSw); go_simp; try with_reducible rfl)
              try simp only [List.getElem_toArray, List.getElem_cons_succ, List.getElem_cons_zero, Act.put, List.setIfInBounds_toArray, List.set_cons_zero, List.set_cons_succ]
              refine wpAnyH_take (i := 1) (v := ?vd1) rfl (by kernel_rfl) (by kernel_rfl) (by kernel_rfl) (fun _ _ _ h => h) (Or.inl ⟨by rfl, ?hyd1⟩) HS0.out ?restd1
              case hyd1 => (intro w hSw; (try dsimp only at hSw); go_simp; try with_reducible rfl)
              try simp only [List.getElem_toArray, List.getElem_cons_succ, List.getElem_cons_zero, Act.put, List.setIfInBounds_toArray, List.set_cons_zero, List.set_cons_succ]
              refine wpAnyH_take (i := 2) (v := ?vd2) rfl (by kernel_rfl) (by kernel_rfl) (by kernel_rfl) (fun _ _ _ h => h) (Or.inl ⟨by rfl, ?hyd2⟩) HS0.out ?restd2
              case hyd2 => (intro w hSw; (try dsimp only at hSw); go_simp; try with_reducible rfl)
              try simp only [List.getElem_toArray, List.getElem_cons_succ, List.getElem_cons_zero, Act.put, List.setIfInBounds_toArray, List.set_cons_zero, List.set_cons_succ]
              refine wpAnyH_take (i := 3) (v := ?vd3) rfl (by kernel_rfl) (by kernel_rfl) (by kernel_rfl) (fun _ _ _ h => h) (Or.inl ⟨by rfl, ?hyd3⟩) HS0.out ?restd3
              case hyd3 => (intro w hSw; (try dsimp only at hSw); go_simp; try with_reducible rfl)
              try simp only [List.getElem_toArray, List.getElem_cons_succ, List.getElem_cons_zero, Act.put, List.setIfInBounds_toArray, List.set_cons_zero, List.set_cons_succ]
              refine wpAnyH_take (i := 4) (v := ?vd4) rfl (by kernel_rfl) (by kernel_rfl) (by kernel_rfl) (fun _ _ _ h => h) (Or.inl ⟨by rfl, ?hyd4⟩) HS0.out ?restd4
              case hyd4 => (intro w hSw; (try dsimp only at hSw); go_simp; try with_reducible rfl)
              try simp only [List.getElem_toArray, List.getElem_cons_succ, List.getElem_cons_zero, Act.put, List.setIfInBounds_toArray, List.set_cons_zero, List.set_cons_succ]
              refine wpAnyH_take (i := 6) (v := ?vd5) rfl (by kernel_rfl) (by kernel_rfl) (by kernel_rfl) (fun _ _ _ h => h) (Or.inl ⟨by rfl, ?hyd5⟩) HS0.out ?restd5
              case hyd5 => (intro w hSw; (try dsimp only at hSw); go_simp; try with_reducible rfl)
              try simp only [List.getElem_toArray, List.getElem_cons_succ, List.getElem_cons_zero, Act.put, List.setIfInBounds_toArray, List.set_cons_zero, List.set_cons_succ]
              refine wpAnyH_take (i := 7) (v := ?vd6) rfl (by kernel_rfl) (by kernel_rfl) (by kernel_rfl) (fun _ _ _ h => h) (Or.inl ⟨by rfl, ?hyd6⟩) HS0.out ?restd6
              case hyd6 => (intro w hSw; (try dsimp only at hSw); go_simp; try with_reducible rfl)
              try simp only [List.getElem_toArray, List.getElem_cons_succ, List.getElem_cons_zero, Act.put, List.setIfInBounds_toArray, List.set_cons_zero, List.set_cons_succ]
              refine wpAnyH_ready (rs := [5, 9]) (by kernel_rfl) (by simp) ?_
              refine AllReadyH.cons rfl (fun K hK => ?_) (AllReadyH.cons rfl (fun K hK => ?_) AllReadyH.nil)
              · go_simp
                go_at_call 14
                refine (implTurn_any _ _ N _ _ r.q r.at' r.way _ HWR.out (by omega) HNMS.out (by omega) HMMS.out (HP7.out.later (heldB HS0.out)) (HJ7.out.later (heldB HS0.out))).mono ?_
                rintro e wc7 ⟨rfl, hbc⟩
                have HS7 : Hid (BkX w7 wc7 bn w3.heap.size bb (.slice (some ⟨pb, po, none⟩) N.pcs.length pcap) (.slice ja N.jts.length jcap) (k : Int) at2 wy r) := keepBx hbc HS0.out
                rw [HTN.out]
                clear hbc
                go_wp2_with fail
                refine hK.out _ _ ?_ (fun _ => ?_)
                · exact HS7.out
                clear hK K
                try simp only [List.getElem_toArray, List.getElem_cons_succ, List.getElem_cons_zero, Act.put, List.setIfInBounds_toArray, List.set_cons_zero, List.set_cons_succ]
                refine wpAnyH_ready (rs := [8, 9]) (by kernel_rfl) (by simp) ?_
                refine AllReadyH.cons rfl (fun K hK => ?_) (AllReadyH.cons rfl (fun K hK => ?_) AllReadyH.nil)
                · go_simp
                  go_at_call 10
                  refine (implDrive_any _ _ _ N _ _ _ xs r.q r.at' (-r.way) r.far _ HWRT.out (wf_int (by omega) (by omega)) HWX.out (by omega) HNMS.out (by omega) HMMS.out hxl (HP7.out.later (heldB HS7.out)) (HJ7.out.later (heldB HS7.out)) (HIL7.out.later (heldB HS7.out))).mono ?_
                  rintro e wc8 ⟨y, hDA2, rfl, hbc⟩
                  have HS8 : Hid (BkX w7 wc8 bn w3.heap.size bb (.slice (some ⟨pb, po, none⟩) N.pcs.length pcap) (.slice ja N.jts.length jcap) (k : Int) at2 wy r) := keepBx hbc HS7.out
                  have HDY := hide hDA2
                  clear hDA2
                  clear hbc
                  go_wp2_with fail
                  refine hK.out _ _ ?_ (fun _ => ?_)
                  · exact HS8.out
                  clear hK K
                  try simp only [List.getElem_toArray, List.getElem_cons_succ, List.getElem_cons_zero, Act.put, List.setIfInBounds_toArray, List.set_cons_zero, List.set_cons_succ]
                  refine wpAnyH_ready (rs := [9]) (by kernel_rfl) (by simp) ?_
                  refine AllReadyH.cons rfl (fun K hK => ?_) AllReadyH.nil
                  go_simp
                  have hal := (Below.refl wc8.heap.size wc8).alloc (Nat.le_refl _) (.cells #[.int .i64 0, .int .i64 0, .int .i64 0, .int .i64 0, .int .i64 0, .int .i64 0] 35)
                  have hzA := (heldB HS8.out).size
                  have HS9 := hide (keepBx hal HS8.out)
                  clear hal
                  refine hK.out _ _ ?_ (fun _ => ?_)
                  · exact HS9.out
                  clear hK K
                  try simp only [List.getElem_toArray, List.getElem_cons_succ, List.getElem_cons_zero, Act.put, List.setIfInBounds_toArray, List.set_cons_zero, List.set_cons_succ]
                  refine wpAnyH_ready (rs := [10]) (by kernel_rfl) (by simp) ?_
                  refine AllReadyH.cons rfl (fun K hK => ?_) AllReadyH.nil
                  go_simp
                  refine hK.out _ _ ?_ (fun _ => ?_)
                  · exact keepBx ((Below.refl wc8.heap.size wc8).alloc (Nat.le_refl _) _) HS8.out
                  clear hK K
                  try simp only [List.getElem_toArray, List.getElem_cons_succ, List.getElem_cons_zero, Act.put, List.setIfInBounds_toArray, List.set_cons_zero, List.set_cons_succ]
                  refine wpAnyH_done (by kernel_rfl) ?_ _
                  go_wp2_with fail
                  go_meet
                  exact ⟨_, y, rfl, HDY.out, ⟨new_cell wc8 _ _ 0 _ rfl, new_cell wc8 _ _ 1 _ rfl, new_cell wc8 _ _ 2 _ rfl, new_cell wc8 _ _ 3 _ rfl, new_cell wc8 _ _ 4 _ rfl, new_cell wc8 _ _ 5 _ rfl⟩, keepBx ((Below.refl wc8.heap.size wc8).alloc (Nat.le_refl _) _) HS8.out⟩
                · go_simp
                  have hal := (Below.refl wc7.heap.size wc7).alloc (Nat.le_refl _) (.cells #[.int .i64 0, .int .i64 0, .int .i64 0, .int .i64 0, .int .i64 0, .int .i64 0] 35)
                  have hzA := (heldB HS7.out).size
                  have HS10 := hide (keepBx hal HS7.out)
                  clear hal
                  refine hK.out _ _ ?_ (fun _ => ?_)
                  · exact HS10.out
                  clear hK K
                  try simp only [List.getElem_toArray, List.getElem_cons_succ, List.getElem_cons_zero, Act.put, List.setIfInBounds_toArray, List.set_cons_zero, List.set_cons_succ]
                  refine wpAnyH_ready (rs := [8]) (by kernel_rfl) (by simp) ?_
                  refine AllReadyH.cons rfl (fun K hK => ?_) AllReadyH.nil
                  go_simp
                  go_at_call 10
                  refine (implDrive_any _ _ _ N _ _ _ xs r.q r.at' (-r.way) r.far _ HWRT.out (wf_int (by omega) (by omega)) HWX.out (by omega) HNMS.out (by omega) HMMS.out hxl (HP7.out.later (heldB HS10.out)) (HJ7.out.later (heldB HS10.out)) (HIL7.out.later (heldB HS10.out))).mono ?_
                  rintro e wc11 ⟨y, hDA2, rfl, hbc⟩
                  have HS11 : Hid (BkX w7 wc11 bn w3.heap.size bb (.slice (some ⟨pb, po, none⟩) N.pcs.length pcap) (.slice ja N.jts.length jcap) (k : Int) at2 wy r) := keepBx hbc HS10.out
                  have HDY := hide hDA2
                  clear hDA2
                  have y6_11 := hide (Six.later (six_new wc7 35) hbc)
                  clear hbc
                  go_wp2_with fail
                  refine hK.out _ _ ?_ (fun _ => ?_)
                  · exact HS11.out
                  clear hK K
                  try simp only [List.getElem_toArray, List.getElem_cons_succ, List.getElem_cons_zero, Act.put, List.setIfInBounds_toArray, List.set_cons_zero, List.set_cons_succ]
                  obtain ⟨r0, r1, r2, r3, r4, r5, g0, g1, g2, g3, g4, g5⟩ := y6_11.out
                  refine wpAnyH_ready (rs := [10]) (by kernel_rfl) (by simp) ?_
                  refine AllReadyH.cons rfl (fun K hK => ?_) AllReadyH.nil
                  rw [if_pos (by rfl)]
                  simp only [List.getElem_toArray, List.getElem_cons_succ, List.getElem_cons_zero]
                  go_big_op
                  refine hK.out _ _ ?_ (fun _ => ?_)
                  · exact keepBx6 HS11.out hzA hb7n hb7s hb7b y
                  clear hK K
                  try simp only [List.getElem_toArray, List.getElem_cons_succ, List.getElem_cons_zero, Act.put, List.setIfInBounds_toArray, List.set_cons_zero, List.set_cons_succ]
                  refine wpAnyH_done (by kernel_rfl) ?_ _
                  go_wp2_with fail
                  go_meet
                  exact ⟨_, y, rfl, HDY.out, In6.put y6_11.out y, keepBx6 HS11.out hzA hb7n hb7s hb7b y⟩
              · go_simp
                have hal := (Below.refl wd.heap.size wd).alloc (Nat.le_refl _) (.cells #[.int .i64 0, .int .i64 0, .int .i64 0, .int .i64 0, .int .i64 0, .int .i64 0] 35)
                have hzA := (heldB HS0.out).size
                have HS12 := hide (keepBx hal HS0.out)
                clear hal
                refine hK.out _ _ ?_ (fun _ => ?_)
                · exact HS12.out
                clear hK K
                try simp only [List.getElem_toArray, List.getElem_cons_succ, List.getElem_cons_zero, Act.put, List.setIfInBounds_toArray, List.set_cons_zero, List.set_cons_succ]
                refine wpAnyH_ready (rs := [5]) (by kernel_rfl) (by simp) ?_
                refine AllReadyH.cons rfl (fun K hK => ?_) AllReadyH.nil
                go_simp
                go_at_call 14
                refine (implTurn_any _ _ N _ _ r.q r.at' r.way _ HWR.out (by omega) HNMS.out (by omega) HMMS.out (HP7.out.later (heldB HS12.out)) (HJ7.out.later (heldB HS12.out))).mono ?_
                rintro e wc13 ⟨rfl, hbc⟩
                have HS13 : Hid (BkX w7 wc13 bn w3.heap.size bb (.slice (some ⟨pb, po, none⟩) N.pcs.length pcap) (.slice ja N.jts.length jcap) (k : Int) at2 wy r) := keepBx hbc HS12.out
                rw [HTN.out]
                have y6_13 := hide (Six.later (six_new wd 35) hbc)
                clear hbc
                go_wp2_with fail
                refine hK.out _ _ ?_ (fun _ => ?_)
                · exact HS13.out
                clear hK K
                try simp only [List.getElem_toArray, List.getElem_cons_succ, List.getElem_cons_zero, Act.put, List.setIfInBounds_toArray, List.set_cons_zero, List.set_cons_succ]
                refine wpAnyH_ready (rs := [8]) (by kernel_rfl) (by simp) ?_
                refine AllReadyH.cons rfl (fun K hK => ?_) AllReadyH.nil
                go_simp
                go_at_call 10
                refine (implDrive_any _ _ _ N _ _ _ xs r.q r.at' (-r.way) r.far _ HWRT.out (wf_int (by omega) (by omega)) HWX.out (by omega) HNMS.out (by omega) HMMS.out hxl (HP7.out.later (heldB HS13.out)) (HJ7.out.later (heldB HS13.out)) (HIL7.out.later (heldB HS13.out))).mono ?_
                rintro e wc14 ⟨y, hDA2, rfl, hbc⟩
                have HS14 : Hid (BkX w7 wc14 bn w3.heap.size bb (.slice (some ⟨pb, po, none⟩) N.pcs.length pcap) (.slice ja N.jts.length jcap) (k : Int) at2 wy r) := keepBx hbc HS13.out
                have HDY := hide hDA2
                clear hDA2
                have y6_14 := hide (y6_13.out.later hbc)
                clear hbc
                go_wp2_with fail
                refine hK.out _ _ ?_ (fun _ => ?_)
                · exact HS14.out
                clear hK K
                try simp only [List.getElem_toArray, List.getElem_cons_succ, List.getElem_cons_zero, Act.put, List.setIfInBounds_toArray, List.set_cons_zero, List.set_cons_succ]
                obtain ⟨r0, r1, r2, r3, r4, r5, g0, g1, g2, g3, g4, g5⟩ := y6_14.out
                refine wpAnyH_ready (rs := [10]) (by kernel_rfl) (by simp) ?_
                refine AllReadyH.cons rfl (fun K hK => ?_) AllReadyH.nil
                rw [if_pos (by rfl)]
                simp only [List.getElem_toArray, List.getElem_cons_succ, List.getElem_cons_zero]
                go_big_op
                refine hK.out _ _ ?_ (fun _ => ?_)
                · exact keepBx6 HS14.out hzA hb7n hb7s hb7b y
                clear hK K
                try simp only [List.getElem_toArray, List.getElem_cons_succ, List.getElem_cons_zero, Act.put, List.setIfInBounds_toArray, List.set_cons_zero, List.set_cons_succ]
                refine wpAnyH_done (by kernel_rfl) ?_ _
                go_wp2_with fail
                go_meet
                exact ⟨_, y, rfl, HDY.out, In6.put y6_14.out y, keepBx6 HS14.out hzA hb7n hb7s hb7b y⟩
            case rest =>
              obtain ⟨b9, y, rfl, hDY, hY6, hBX⟩ := hcut
              rename World => w8
              obtain ⟨e0, e1, e3, e4, e5⟩ := back_home HDA.out H4.out HRM.out hDY
              obtain ⟨yc, yf, yj, yq, ya, yw, yp⟩ := y
              dsimp only at e0 e1 e3 e4 e5 hY6
              subst e0
              subst e1
              subst e3
              have e4 := e4.symm
              subst e4
              subst e5
              have h78 := heldB hBX
              have HP8 := hide (HP7.out.later h78)
              have HJ8 := hide (HJ7.out.later h78)
              have HBW8 := hide (HBW7.out.trans (h78.mono HBW7.out.size))
              have HSY : Hid (BkY w8 w8 bn w3.heap.size bb b9 (.slice (some ⟨pb, po, none⟩) N.pcs.length pcap) (.slice ja N.jts.length jcap) (k : Int) at2 wy r ⟨0, r.far, yj, (k : Int), at2, -wy, yp⟩) := ⟨⟨hBX.1.1, hBX.1.2.1, hBX.1.2.2, hY6⟩, Below.refl _ _⟩
              clear hDY hY6 hBX h78 HSX HP7 HJ7 HIL7 HZ7 HBW7
              have h8 : Below w8.heap.size w8 w8.drew := (Below.refl _ _).drew
              go_upto_region 14 with fail
              go_region_held3 (fun w' => BkY w8 w' bn w3.heap.size bb b9 (.slice (some ⟨pb, po, none⟩) N.pcs.length pcap) (.slice ja N.jts.length jcap) (k : Int) at2 wy r ⟨0, r.far, yj, (k : Int), at2, -wy, yp⟩)
                (first
                  | (exact keepBy h8 HSY.out)
                  | (exact keepBy (by assumption) (by assumption)))
                (first
                  | (go_at_call 14; refine (implTurn_any _ _ N _ _ (k : Int) at2 wy _ HWF.out (by omega) HNMS.out (by omega) HMMS.out (HP8.out.later h8) (HJ8.out.later h8)).mono ?_; rintro e w9 ⟨rfl, hb9⟩; rw [HTS.out]; dsimp only))
              rename_i hH
              have HBF := hide (HBW8.out.trans ((heldB hH).mono HBW8.out.size))
              go_wp2_with fail
              go_ret
              exact ⟨rfl, HBF.out⟩
end Go.Proofs.Yteapmddadieohaa
