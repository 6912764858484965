/- The law FnTop's walk. Own work. -/
import Derived.Test.YteapmddadieohaaDlA
import Derived.Test.YteapmddadieohaaMxAJ
import Derived.Test.YteapmddadieohaaImDr
import Derived.Deep.RegionHeld3
namespace Go.Proofs.Yteapmddadieohaa
open Go.RowKit
set_option maxHeartbeats 8000000

/-- Six numbers in a box. -/
abbrev Box6 (w : World) (b : Nat) (r : DRes) : Prop := w.cell? ⟨b, 0, none⟩ = some (.int .i64 r.code) ∧ w.cell? ⟨b, 1, none⟩ = some (.int .i64 r.far) ∧ w.cell? ⟨b, 2, none⟩ = some (.int .i64 r.joint) ∧ w.cell? ⟨b, 3, none⟩ = some (.int .i64 r.q) ∧ w.cell? ⟨b, 4, none⟩ = some (.int .i64 r.at') ∧ w.cell? ⟨b, 5, none⟩ = some (.int .i64 r.way)
theorem Box6.later {w w' : World} {b : Nat} {r : DRes} (h : Box6 w b r) (hb : Below w.heap.size w w') : Box6 w' b r := ⟨cell_later' hb h.1, cell_later' hb h.2.1, cell_later' hb h.2.2.1, cell_later' hb h.2.2.2.1, cell_later' hb h.2.2.2.2.1, cell_later' hb h.2.2.2.2.2⟩
theorem box6_new (w : World) (T : TypeId) (r : DRes) : Box6 (w.alloc (.cells #[.int .i64 r.code, .int .i64 r.far, .int .i64 r.joint, .int .i64 r.q, .int .i64 r.at', .int .i64 r.way] T)) w.heap.size r :=
  ⟨new_cell w _ _ 0 _ rfl, new_cell w _ _ 1 _ rfl, new_cell w _ _ 2 _ rfl, new_cell w _ _ 3 _ rfl, new_cell w _ _ 4 _ rfl, new_cell w _ _ 5 _ rfl⟩
abbrev Box2 (w : World) (b : Nat) (v0 v1 : Value) : Prop := w.cell? ⟨b, 0, none⟩ = some v0 ∧ w.cell? ⟨b, 1, none⟩ = some v1
theorem Box2.later {w w' : World} {b : Nat} {v0 v1 : Value} (h : Box2 w b v0 v1) (hb : Below w.heap.size w w') : Box2 w' b v0 v1 := ⟨cell_later' hb h.1, cell_later' hb h.2⟩
abbrev Box3 (w : World) (b : Nat) (x y z : Int) : Prop := w.cell? ⟨b, 0, none⟩ = some (.int .i64 x) ∧ w.cell? ⟨b, 1, none⟩ = some (.int .i64 y) ∧ w.cell? ⟨b, 2, none⟩ = some (.int .i64 z)
theorem Box3.later {w w' : World} {b : Nat} {x y z : Int} (h : Box3 w b x y z) (hb : Below w.heap.size w w') : Box3 w' b x y z := ⟨cell_later' hb h.1, cell_later' hb h.2.1, cell_later' hb h.2.2⟩

/-- The boxes of FnTop where it holds its drive against the model's. -/
abbrev TpS (w8 wx : World) (bn bm bs bx : Nat) (v0 v1 u0 u1 : Value) (q at' wy : Int) (r : DRes) : Prop := (Box2 wx bn v0 v1 ∧ Box2 wx bm u0 u1 ∧ Box3 wx bs q at' wy ∧ Box6 wx bx r) ∧ Hid (Below w8.heap.size w8 wx)
theorem keepTp {w8 w2 w3 : World} {bn bm bs bx : Nat} {v0 v1 u0 u1 : Value} {q at' wy : Int} {r : DRes} (hb : Below w2.heap.size w2 w3) (h : TpS w8 w2 bn bm bs bx v0 v1 u0 u1 q at' wy r) : TpS w8 w3 bn bm bs bx v0 v1 u0 u1 q at' wy r :=
  ⟨⟨h.1.1.later hb, h.1.2.1.later hb, h.1.2.2.1.later hb, h.1.2.2.2.later hb⟩, h.2.out.trans (hb.mono h.2.out.size)⟩

theorem lenAt_le {N : Nt} (h : NetBd N) (q : Int) : 0 ≤ lenAt N q ∧ lenAt N q ≤ 300 := by
  unfold lenAt
  split
  · rename_i p hp
    have := h.lens p (List.mem_of_getElem? hp)
    omega
  · omega

theorem fnTop_walk (a z : Option Addr) (cap zc : Nat) (code more : List Int) (w : World) (hB : Bys code) (hB' : Bys more) (hn : code.length ≤ maxLen) (hn' : more.length ≤ maxLen) (hx : BytesAt w a code) (hz : BytesAt w z more) :
    Calls Try.prog 3 #[.slice a code.length cap, .slice z more.length zc] w fun e w' => e = .returned (.bool true) ∧ Below w.heap.size w w' := by
  have HB := hide hB
  have HB' := hide hB'
  have HX := hide hx
  have HZ := hide hz
  have hcm : (code.length : Int) ≤ 9223372036854775807 := by unfold maxLen at hn; omega
  have hmm : (more.length : Int) ≤ 9223372036854775807 := by unfold maxLen at hn'; omega
  have hA := wholeP_bd hB' 3
  have hBd := wholeP_bd hB' 6
  clear hB hB' hx hz hn hn'
  by_cases hc : (1048576 : Int) < (code.length : Int)
  · have hc1 : decide ((1048576 : Int) < (code.length : Int)) = true := by rw [decide_eq_true_iff]; exact hc
    go_enter Try.func3, Try.ntmps3
    go_wp2_with fail
    go_ret
    exact ⟨rfl, Below.refl _ _⟩
  by_cases hm : (1048576 : Int) < (more.length : Int)
  · have hc1 : decide ((1048576 : Int) < (code.length : Int)) = false := by rw [decide_eq_false_iff_not]; exact hc
    have hm1 : decide ((1048576 : Int) < (more.length : Int)) = true := by rw [decide_eq_true_iff]; exact hm
    go_enter Try.func3, Try.ntmps3
    go_wp2_with fail
    go_ret
    exact ⟨rfl, Below.refl _ _⟩
  have hc1 : decide ((1048576 : Int) < (code.length : Int)) = false := by rw [decide_eq_false_iff_not]; exact hc
  have hm1 : decide ((1048576 : Int) < (more.length : Int)) = false := by rw [decide_eq_false_iff_not]; exact hm
  have hcl : code.length ≤ 1048576 := by omega
  have hml : more.length ≤ 1048576 := by omega
  have hNB : NetBd (netOfCode code) := netP_bd code ⟨0, 0⟩
  have HNA := hide (fun w hx => nets_any a cap code w HB.out hcl hx)
  generalize hAe : wholeP more 3 = A at hA
  generalize hBe : wholeP more 6 = B at hBd
  have HAE := hide hAe
  have HBE := hide hBe
  clear hc hm hcm hmm hAe hBe
  go_enter Try.func3, Try.ntmps3
  go_wp2_with fail
  refine (nets_any a cap code _ HB.out hcl HX.out).mono ?_
  rintro e w1 ⟨pa, ja, pcap, jcap, rfl, hPA, hJA, hb1⟩
  have HNP := hide (show ∀ (e : Ending) (w w' : World), NetsPost code w e w' → ∃ (pa ja : Option Addr) (pcap jcap : Nat), e = .returned (.agg #[.slice pa (netOfCode code).pcs.length pcap, .slice ja (netOfCode code).jts.length jcap]) ∧ PcsAt w' pa (netOfCode code).pcs ∧ JtsAt w' ja (netOfCode code).jts ∧ Below w.heap.size w w' from fun _ _ _ h => h)
  generalize netOfCode code = N at *
  have HNB := hide hNB
  have hnp := hNB.few
  have hnj := hNB.joints
  have HS9 := hide (show ∀ p ∈ N.pcs, p.name.size ≤ 1048576 from fun p hp => Nat.le_trans (hNB.names p hp) (by decide))
  have HM9 := hide (show ∀ j ∈ N.jts, j.name.size ≤ 1048576 ∧ j.ends.length ≤ 1048576 from fun j hj => ⟨Nat.le_trans (hNB.jends j hj).1 (by decide), Nat.le_trans (hNB.jends j hj).2 (by decide)⟩)
  have HP1 := hide hPA
  have HJ1 := hide hJA
  have HBW := hide hb1
  clear hPA hJA hb1 hNB
  go_wp2_with fail
  have hA2 := (Below.refl w1.heap.size w1).alloc (Nat.le_refl _) (.cells #[.slice pa N.pcs.length pcap, .slice ja N.jts.length jcap] 26)
  have n0 := new_cell w1 #[.slice pa N.pcs.length pcap, .slice ja N.jts.length jcap] 26 0 _ rfl
  have n1 := new_cell w1 #[.slice pa N.pcs.length pcap, .slice ja N.jts.length jcap] 26 1 _ rfl
  have HP2 := hide (HP1.out.later hA2)
  have HJ2 := hide (HJ1.out.later hA2)
  have HBW2 := hide (HBW.out.trans (hA2.mono HBW.out.size))
  clear hA2 HP1 HJ1 HBW
  generalize w1.alloc (.cells #[.slice pa N.pcs.length pcap, .slice ja N.jts.length jcap] 26) = w2 at *
  generalize w1.heap.size = bn at *
  refine (aSpot_any pa ja z N pcap jcap zc more _ HNB.out HB'.out hml HP2.out (HZ.out.later HBW2.out)).mono ?_
  rintro e w3 ⟨rfl, hb3⟩
  have HSP := hide (spot_drawn HNB.out more)
  generalize spotQ N more = q at *
  generalize spotA N more = at' at *
  generalize spotW N more = wy at *
  have HP3 := hide (HP2.out.later hb3)
  have HJ3 := hide (HJ2.out.later hb3)
  have HBW3 := hide (HBW2.out.trans (hb3.mono HBW2.out.size))
  have n0 := cell_later' hb3 n0
  have n1 := cell_later' hb3 n1
  have hbn := cell_lt n0
  clear hb3 HP2 HJ2 HBW2
  go_wp2_with fail
  have hA4 := (Below.refl w3.heap.size w3).alloc (Nat.le_refl _) (.cells #[.int .i64 q, .int .i64 at', .int .i64 wy] 29)
  have s0 := new_cell w3 #[.int .i64 q, .int .i64 at', .int .i64 wy] 29 0 _ rfl
  have s1 := new_cell w3 #[.int .i64 q, .int .i64 at', .int .i64 wy] 29 1 _ rfl
  have s2 := new_cell w3 #[.int .i64 q, .int .i64 at', .int .i64 wy] 29 2 _ rfl
  have HP4 := hide (HP3.out.later hA4)
  have HJ4 := hide (HJ3.out.later hA4)
  have HBW4 := hide (HBW3.out.trans (hA4.mono HBW3.out.size))
  have n0 := cell_later' hA4 n0
  have n1 := cell_later' hA4 n1
  clear hA4 HP3 HJ3 HBW3
  generalize w3.alloc (.cells #[.int .i64 q, .int .i64 at', .int .i64 wy] 29) = w4 at *
  generalize w3.heap.size = bs at *
  refine (lies_any pa ja z N pcap jcap zc more _ HNB.out HB'.out hml HJ4.out (HZ.out.later HBW4.out)).mono ?_
  rintro e w5 ⟨v, rfl, how, hb5⟩
  have HXL := hide (liesL_bd N more)
  have hxl : (liesL N more).length ≤ 1048576 := by rw [liesL_len]; omega
  generalize hxe : liesL N more = xs at *
  have HXE := hide hxe
  clear hxe
  obtain ⟨zl, zlc, rfl, hIL⟩ := ints_of_owns how
  have HIL5 := hide hIL
  have HP5 := hide (HP4.out.later hb5)
  have HJ5 := hide (HJ4.out.later hb5)
  have HBW5 := hide (HBW4.out.trans (hb5.mono HBW4.out.size))
  have n0 := cell_later' hb5 n0
  have n1 := cell_later' hb5 n1
  have s0 := cell_later' hb5 s0
  have s1 := cell_later' hb5 s1
  have s2 := cell_later' hb5 s2
  clear hb5 how hIL HP4 HJ4 HBW4
  go_wp2_with fail
  refine (nets_any a cap code _ HB.out hcl (HX.out.later HBW5.out)).mono ?_
  intro e w6 hpost6
  obtain ⟨pa', ja', pcap', jcap', rfl, hPA', hJA', hb6⟩ := HNP.out _ _ _ hpost6
  have HP6 := hide (HP5.out.later hb6)
  have HJ6 := hide (HJ5.out.later hb6)
  have HIL6 := hide (HIL5.out.later hb6)
  have HBW6 := hide (HBW5.out.trans (hb6.mono HBW5.out.size))
  have HQ6 := hide hPA'
  have HK6 := hide hJA'
  have n0 := cell_later' hb6 n0
  have n1 := cell_later' hb6 n1
  have s0 := cell_later' hb6 s0
  have s1 := cell_later' hb6 s1
  have s2 := cell_later' hb6 s2
  clear hb6 hPA' hJA' hpost6 HP5 HJ5 HIL5 HBW5
  go_wp2_with fail
  have hA7 := (Below.refl w6.heap.size w6).alloc (Nat.le_refl _) (.cells #[.slice pa' N.pcs.length pcap', .slice ja' N.jts.length jcap'] 26)
  have m0 := new_cell w6 #[.slice pa' N.pcs.length pcap', .slice ja' N.jts.length jcap'] 26 0 _ rfl
  have m1 := new_cell w6 #[.slice pa' N.pcs.length pcap', .slice ja' N.jts.length jcap'] 26 1 _ rfl
  have HP7 := hide (HP6.out.later hA7)
  have HJ7 := hide (HJ6.out.later hA7)
  have HIL7 := hide (HIL6.out.later hA7)
  have HBW7 := hide (HBW6.out.trans (hA7.mono HBW6.out.size))
  have HQ7 := hide (HQ6.out.later hA7)
  have HK7 := hide (HK6.out.later hA7)
  have n0 := cell_later' hA7 n0
  have n1 := cell_later' hA7 n1
  have s0 := cell_later' hA7 s0
  have s1 := cell_later' hA7 s1
  have s2 := cell_later' hA7 s2
  clear hA7 HP6 HJ6 HIL6 HBW6 HQ6 HK6
  generalize w6.alloc (.cells #[.slice pa' N.pcs.length pcap', .slice ja' N.jts.length jcap'] 26) = w7 at *
  generalize w6.heap.size = bm at *
  refine (lies_any pa' ja' z N pcap' jcap' zc more _ HNB.out HB'.out hml HK7.out (HZ.out.later HBW7.out)).mono ?_
  rintro e w8 ⟨v, rfl, how, hb8⟩
  rw [HXE.out] at how
  obtain ⟨zm, zmc, rfl, hIM⟩ := ints_of_owns how
  have HIM8 := hide hIM
  have HP8 := hide (HP7.out.later hb8)
  have HJ8 := hide (HJ7.out.later hb8)
  have HIL8 := hide (HIL7.out.later hb8)
  have HBW8 := hide (HBW7.out.trans (hb8.mono HBW7.out.size))
  have HQ8 := hide (HQ7.out.later hb8)
  have HK8 := hide (HK7.out.later hb8)
  have n0 := cell_later' hb8 n0
  have n1 := cell_later' hb8 n1
  have m0 := cell_later' hb8 m0
  have m1 := cell_later' hb8 m1
  have s0 := cell_later' hb8 s0
  have s1 := cell_later' hb8 s1
  have s2 := cell_later' hb8 s2
  clear hb8 how hIM HP7 HJ7 HIL7 HBW7 HQ7 HK7
  go_wp2_with fail
  refine (wWhole_any z zc more 3 _ HB'.out hml (by omega) (HZ.out.later HBW8.out)).mono ?_
  rintro e w8' ⟨rfl, rfl⟩
  rw [HAE.out]
  go_wp2_with fail
  refine (wWhole_any z zc more 6 _ HB'.out hml (by omega) (HZ.out.later HBW8.out)).mono ?_
  rintro e w8' ⟨rfl, rfl⟩
  rw [HBE.out]
  have HWF := hide (show Wf3 q at' wy by
    have h := HSP.out
    have hw := spot_way h
    have hl := lenAt_le HNB.out q
    simp only [spotP, inR, Bool.and_eq_true, decide_eq_true_eq] at h
    exact ⟨wf_int (by omega) (by omega), wf_int (by omega) (by omega), wf_int (by omega) (by omega)⟩)
  have HWX := hide (show ∀ x ∈ xs, (Lit.int .i64 x).wf = true from fun x hx => by have := HXL.out x hx; exact wf_int (by omega) (by omega))
  go_wp2_with fail
  refine (implDrive_any _ _ _ N _ _ _ xs q at' wy A _ HWF.out (wf_int (by omega) (by omega)) HWX.out (by omega) HS9.out (by omega) HM9.out hxl HP8.out HJ8.out HIL8.out).mono ?_
  rintro e w9 ⟨r, hr, rfl, hb9⟩
  have HR := hide hr
  have HP9 := hide (HP8.out.later hb9)
  have HJ9 := hide (HJ8.out.later hb9)
  have HIL9 := hide (HIL8.out.later hb9)
  have HIM9 := hide (HIM8.out.later hb9)
  have HBW9 := hide (HBW8.out.trans (hb9.mono HBW8.out.size))
  have HQ9 := hide (HQ8.out.later hb9)
  have HK9 := hide (HK8.out.later hb9)
  have n0 := cell_later' hb9 n0
  have n1 := cell_later' hb9 n1
  have m0 := cell_later' hb9 m0
  have m1 := cell_later' hb9 m1
  have s0 := cell_later' hb9 s0
  have s1 := cell_later' hb9 s1
  have s2 := cell_later' hb9 s2
  clear hb9 hr HP8 HJ8 HIL8 HIM8 HBW8 HQ8 HK8
  go_upto_region 11 with fail
  have hA10 := (Below.refl w9.heap.size w9).alloc (Nat.le_refl _) (.cells #[.int .i64 r.code, .int .i64 r.far, .int .i64 r.joint, .int .i64 r.q, .int .i64 r.at', .int .i64 r.way] 35)
  have HX6 := hide (box6_new w9 35 r)
  have HP10 := hide (HP9.out.later hA10)
  have HJ10 := hide (HJ9.out.later hA10)
  have HIL10 := hide (HIL9.out.later hA10)
  have HIM10 := hide (HIM9.out.later hA10)
  have HBW10 := hide (HBW9.out.trans (hA10.mono HBW9.out.size))
  have HQ10 := hide (HQ9.out.later hA10)
  have HK10 := hide (HK9.out.later hA10)
  have n0 := cell_later' hA10 n0
  have n1 := cell_later' hA10 n1
  have m0 := cell_later' hA10 m0
  have m1 := cell_later' hA10 m1
  have s0 := cell_later' hA10 s0
  have s1 := cell_later' hA10 s1
  have s2 := cell_later' hA10 s2
  clear hA10 HP9 HJ9 HIL9 HIM9 HBW9 HQ9 HK9
  generalize w9.alloc (.cells #[.int .i64 r.code, .int .i64 r.far, .int .i64 r.joint, .int .i64 r.q, .int .i64 r.at', .int .i64 r.way] 35) = w10 at *
  generalize w9.heap.size = bx at *
  have h10 : Below w10.heap.size w10 w10.drew := (Below.refl _ _).drew
  have HTS : Hid (TpS w10 w10 bn bm bs bx (.slice pa N.pcs.length pcap) (.slice ja N.jts.length jcap) (.slice pa' N.pcs.length pcap') (.slice ja' N.jts.length jcap') q at' wy r) := ⟨⟨⟨n0, n1⟩, ⟨m0, m1⟩, ⟨s0, s1, s2⟩, HX6.out⟩, Below.refl _ _⟩
  have HME := hide (fun j (hj : j ∈ N.jts) => (HM9.out j hj).2)
  clear n0 n1 m0 m1 s0 s1 s2 HX6
  go_region_held3 (fun w' => TpS w10 w' bn bm bs bx (.slice pa N.pcs.length pcap) (.slice ja N.jts.length jcap) (.slice pa' N.pcs.length pcap') (.slice ja' N.jts.length jcap') q at' wy r)
    (first
      | (exact keepTp h10 HTS.out)
      | (exact keepTp (by assumption) (by assumption)))
    (first
      | (go_at_call 11; refine (specDrive_any _ _ _ N _ _ _ xs q at' wy A _ (by omega) HS9.out (by omega) HM9.out hxl (HQ10.out.later h10) (HK10.out.later h10) (HIM10.out.later h10)).mono ?_; rintro e w11 ⟨r', hr', rfl, hb11⟩; obtain rfl := driveA_one HR.out hr')
      | (go_at_call 12; refine (wNet_same _ _ _ _ N _ _ _ _ _ (by omega) (by omega) HME.out (HP10.out.later (chn h10 hb11)) (HQ10.out.later (chn h10 hb11)) (HJ10.out.later (chn h10 hb11)) (HK10.out.later (chn h10 hb11))).mono ?_; rintro e w12 ⟨rfl, hb12⟩)
      | (go_at_call 13; refine (wInts_same _ _ xs _ _ _ hxl (HIL10.out.later (chn (chn h10 hb11) hb12)) (HIM10.out.later (chn (chn h10 hb11) hb12))).mono ?_; rintro e w13 ⟨rfl, hb13⟩))
  rename_i hH
  have h13 := hH.2.out
  obtain ⟨⟨n0, n1⟩, _, ⟨s0, s1, s2⟩, hX6⟩ := hH.1
  have HX6 := hide hX6
  have HP13 := hide (HP10.out.later h13)
  have HJ13 := hide (HJ10.out.later h13)
  have HIL13 := hide (HIL10.out.later h13)
  have HBW13 := hide (HBW10.out.trans (h13.mono HBW10.out.size))
  clear hH h13 hX6 hb11 hb12 hb13 hr' h10 HTS HP10 HJ10 HIL10 HIM10 HBW10 HQ10 HK10
  go_wp2_with fail
  refine (implDrive_any _ _ _ N _ _ _ xs q at' wy (A + B) _ HWF.out (wf_int (by omega) (by omega)) HWX.out (by omega) HS9.out (by omega) HM9.out hxl HP13.out HJ13.out HIL13.out).mono ?_
  rintro e w14 ⟨r2, hr2, rfl, hb14⟩
  have HR2 := hide hr2
  have HP14 := hide (HP13.out.later hb14)
  have HJ14 := hide (HJ13.out.later hb14)
  have HIL14 := hide (HIL13.out.later hb14)
  have HBW14 := hide (HBW13.out.trans (hb14.mono HBW13.out.size))
  have HX6 := hide (HX6.out.later hb14)
  have n0 := cell_later' hb14 n0
  have n1 := cell_later' hb14 n1
  obtain ⟨x0, x1, x2, x3, x4, x5⟩ := HX6.out
  have hbx := cell_lt x0
  have hbn2 := cell_lt n0
  clear hb14 hr2 HP13 HJ13 HIL13 HBW13 s0 s1 s2
  have HBF := hide (HBW14.out.alloc HBW14.out.size (.cells #[.int .i64 r2.code, .int .i64 r2.far, .int .i64 r2.joint, .int .i64 r2.q, .int .i64 r2.at', .int .i64 r2.way] 35))
  by_cases hc0 : r.code = 0
  · have q0 : (r.code != 0) = false := by rw [hc0]; rfl
    have HC0 := hide hc0
    have HSX := hide (driveA_spot HR.out (by rw [hc0]; omega))
    have HWF2 := hide (show Wf3 r.q r.at' r.way by
      have h := HSX.out.1
      have hw := spot_way h
      have hl := lenAt_le HNB.out r.q
      simp only [spotP, inR, Bool.and_eq_true, decide_eq_true_eq] at h
      exact ⟨wf_int (by omega) (by omega), wf_int (by omega) (by omega), wf_int (by omega) (by omega)⟩)
    clear hc0
    go_wp2_with fail
    have hA15 := (Below.refl w14.heap.size w14).alloc (Nat.le_refl _) (.cells #[.int .i64 r2.code, .int .i64 r2.far, .int .i64 r2.joint, .int .i64 r2.q, .int .i64 r2.at', .int .i64 r2.way] 35)
    have HY6 := hide (box6_new w14 35 r2)
    have HP15 := hide (HP14.out.later hA15)
    have HJ15 := hide (HJ14.out.later hA15)
    have HIL15 := hide (HIL14.out.later hA15)
    have HX6 := hide (HX6.out.later hA15)
    clear hA15 HP14 HJ14 HIL14 HBW14 n0 n1 x0 x1 x2 x3 x4 x5
    generalize w14.alloc (.cells #[.int .i64 r2.code, .int .i64 r2.far, .int .i64 r2.joint, .int .i64 r2.q, .int .i64 r2.at', .int .i64 r2.way] 35) = w15 at *
    generalize w14.heap.size = by' at *
    refine (implDrive_any _ _ _ N _ _ _ xs r.q r.at' r.way B _ HWF2.out (wf_int (by omega) (by omega)) HWX.out (by omega) HS9.out (by omega) HM9.out hxl HP15.out HJ15.out HIL15.out).mono ?_
    rintro e w16 ⟨r3, hr3, rfl, hb16⟩
    have HTO := hide (top_on (by omega) (by omega) HR.out HR2.out hr3 HC0.out)
    have HBW16 := hide (HBF.out.trans (hb16.mono HBF.out.size))
    obtain ⟨x0, x1, x2, x3, x4, x5⟩ := HX6.out.later hb16
    obtain ⟨y0, y1, y2, y3, y4, y5⟩ := HY6.out.later hb16
    have hbx := cell_lt x0
    have hby := cell_lt y0
    have HBW17 := hide (HBW16.out.alloc HBW16.out.size (.cells #[.int .i64 r3.code, .int .i64 r3.far, .int .i64 r3.joint, .int .i64 r3.q, .int .i64 r3.at', .int .i64 r3.way] 35))
    have hfar : (r.far != A) = false := by rw [HTO.out.1]; simp
    have hfar' : (r.far == A) = true := by rw [HTO.out.1]; simp
    clear hb16 hr3 HX6 HY6 HP15 HJ15 HIL15 HBF
    by_cases h5 : r3.code = 5
    · have q5 : (r3.code == 5) = true := by rw [beq_iff_eq]; exact h5
      clear h5
      go_wp2_with fail
      go_ret
      exact ⟨rfl, HBW17.out⟩
    · by_cases h5' : r2.code = 5
      · have q5 : (r3.code == 5) = false := by rw [beq_eq_false_iff_ne]; exact h5
        have q5' : (r2.code == 5) = true := by rw [beq_iff_eq]; exact h5'
        clear h5 h5'
        go_wp2_with fail
        go_ret
        exact ⟨rfl, HBW17.out⟩
      · have q5 : (r3.code == 5) = false := by rw [beq_eq_false_iff_ne]; exact h5
        have q5' : (r2.code == 5) = false := by rw [beq_eq_false_iff_ne]; exact h5'
        obtain ⟨e0, e3, e4, e5, e2, e1⟩ := HTO.out.2 h5 h5'
        have k0 : (r3.code == r2.code) = true := by rw [beq_iff_eq]; exact e0
        have k3 : (r3.q == r2.q) = true := by rw [beq_iff_eq]; exact e3
        have k4 : (r3.at' == r2.at') = true := by rw [beq_iff_eq]; exact e4
        have k5 : (r3.way == r2.way) = true := by rw [beq_iff_eq]; exact e5
        have k2 : (r3.joint == r2.joint) = true := by rw [beq_iff_eq]; exact e2
        have k1 : (r3.far + A == r2.far) = true := by rw [beq_iff_eq]; exact e1
        have hf3 : 0 ≤ r2.far ∧ r2.far ≤ A + B := by
          by_cases h4 : r2.code = 4
          · have := HR2.out
            have hg : goodP N xs q at' wy (A + B) = true := by
              have h := good_all (driveA_code HR.out (by rw [HC0.out]; omega))
              exact good_mk h.1 h.2.1 h.2.2.1 (by omega)
            unfold DriveA at this
            rw [if_pos hg] at this
            obtain ⟨y, hy, rfl⟩ := this
            have h := good_all hg
            have := drive_spot h.1 h.2.1 hy h.2.2.1 (by omega)
            dsimp only
            omega
          · have := driveA_spot HR2.out h4
            omega
        have hb3 : -20400 ≤ r3.far ∧ r3.far ≤ 40800 := by omega
        clear h5 h5' e0 e1 e2 e3 e4 e5
        go_wp2_with fail
        go_ret
        exact ⟨rfl, HBW17.out⟩
  · have q0 : (r.code != 0) = true := by rw [bne_iff_ne]; exact hc0
    have he := top_early (by omega) (by omega) HR.out HR2.out hc0
    subst he
    clear hc0
    go_wp2_with fail
    go_ret
    exact ⟨rfl, HBF.out⟩
end Go.Proofs.Yteapmddadieohaa
