/- The law FnParts' walk. Own work, written by gen_parts.py. -/
import Derived.Test.YtncanhbmbjoamaaGreatLwTp
import Derived.Test.YtncanhbmbjoamaaGreatMxAW
import Derived.Test.YtncanhbmbjoamaaGreatMxAX
import Derived.Test.YtncanhbmbjoamaaGreatMxAZ
import Derived.Test.YtncanhbmbjoamaaGreatMxAY
import Derived.Test.YtncanhbmbjoamaaGreatMxBB
import Derived.Deep.CutRange
import Derived.BigRegion
import Derived.Lib.QuietBelow
import Derived.BigQuiet
namespace Go.Proofs.YtncanhbmbjoamaaGreat
open Go.RowKit Go.Sort
set_option maxHeartbeats 8000000
set_option maxRecDepth 20000
set_option linter.unusedSimpArgs false

theorem parts_made {w : World} {base : Nat} {e : TypeId} {v : Value} {ps : List (Int × Int × Int)} (h : w.ownsRow base e 3 v ps.length (partCells ps)) : ∃ z zc, v = .slice z ps.length zc ∧ ps.length ≤ zc ∧ PlainZ z ps.length ∧ PartsAt w z ps := by
  rcases parts_of_owns h with ⟨rfl, rfl⟩ | ⟨b, cap, rfl, hb, hn, hP, hR⟩
  · exact ⟨none, 0, rfl, by simp, .inr ⟨rfl, rfl⟩, fun k hk => by simp at hk⟩
  · exact ⟨_, cap, rfl, hn, .inl ⟨b, 0, rfl⟩, hP⟩
theorem parts_law {N : Nt} {xs : List Int} {q a wy far : Int} {r : DRes} {ps : List Prt} (hB : NetBd N) (hr : netOk N = (0, 0)) (hl : liesP N.jts xs = true) (hs : spotP N q a wy = true) (hf : 0 ≤ far ∧ far ≤ 1000000) (hD : DriveA N xs q a wy far r) (hA : AheadR N xs q a wy far ps) :
    lenSum ps = r.far ∧ partsOkP ps = true ∧ ps.length ≤ 1001 ∧ (∀ p ∈ ps, p.2.1 < p.2.2) ∧ (r.code = 0 → EndsHere r.q r.at' ps) ∧ (0 < a → a < lenAt N q → ∀ p, ps[0]? = some p → p.1 = q ∧ p.2.1 ≤ a ∧ a ≤ p.2.2) := by
  have hg := good_mk hr hl hs hf
  unfold DriveA at hD
  unfold AheadR at hA
  rw [if_pos hg] at hD hA
  obtain ⟨x, hx, rfl⟩ := hD
  obtain ⟨y, hy, rfl⟩ := hA
  obtain rfl := drive_one hr hx hy
  obtain ⟨h1, h2⟩ := driveParts_start hr hl hs hf.1 hx
  have h3 := driveParts_few hr hl hx hs (by omega) (.inl (by simp))
  exact ⟨h1.sum, parts_ok hr h1 h3 (by have := hB.few; omega) (fun q => by have := lenAt_le hB q; omega), h3, fun p hp => (h1.all p hp).1, h2, fun h4 h5 => driveParts_first hs h4 h5 hx⟩
theorem behind_few {N : Nt} {xs : List Int} {q a wy far : Int} {ps : List Prt} (hr : netOk N = (0, 0)) (hl : liesP N.jts xs = true) (hs : spotP N q a wy = true) (hA : BehindR N xs q a wy far ps) : ps.length ≤ 1001 := by
  unfold BehindR at hA
  split at hA
  · obtain ⟨y, hy, rfl⟩ := hA
    exact driveParts_few hr hl hy (spot_back hs) (by omega) (.inl (by simp))
  · rw [hA]; simp
abbrev PrS (w0 wx : World) (bn bs bx : Nat) (v0 v1 : Value) (q at' wy : Int) (r : DRes) : Prop := (Box2 wx bn v0 v1 ∧ Box3 wx bs q at' wy ∧ Box6 wx bx r) ∧ Hid (Below w0.heap.size w0 wx)
theorem keepPr {w0 w2 w3 : World} {bn bs bx : Nat} {v0 v1 : Value} {q at' wy : Int} {r : DRes} (hb : Below w2.heap.size w2 w3) (h : PrS w0 w2 bn bs bx v0 v1 q at' wy r) : PrS w0 w3 bn bs bx v0 v1 q at' wy r :=
  ⟨⟨h.1.1.later hb, h.1.2.1.later hb, h.1.2.2.later hb⟩, h.2.out.trans (hb.mono h.2.out.size)⟩
theorem touch_q (hio : InOrderDone) (z z' : Option Addr) (ps qs : List Prt) (n m cap cap' : Nat) (w : World) (hN : n = ps.length) (hM : m = qs.length) (hz : PlainZ z ps.length) (hz' : PlainZ z' qs.length) (hn : ps.length ≤ 1048576) (hn' : qs.length ≤ 1048576) (hp : PartsAt w z ps) (hq : PartsAt w z' qs) {t : Bool} (ht : touchP ps qs = t) (d : Nat) (os : Array Obj) :
    Calls Tryz.prog 17 #[.slice z n cap, .slice z' m cap'] (grow (redrawn w d) os) fun e w'' => e = .returned (.bool t) ∧ ∃ p : Regrown, w'' = grow (redrawn w p.d) p.os := by
  subst hN
  subst hM
  subst ht
  exact Calls.regrown_of (implTouch_over hio z z' ps qs cap cap' _ hz hz' hn hn' (hp.later (below_regrown w d os)) (hq.later (below_regrown w d os)))
theorem plain_one {z : Option Addr} {n : Nat} (h : PlainZ z n) (h1 : 1 ≤ n) : PlainZ z 1 := by
  rcases h with h | ⟨_, h⟩
  · exact .inl h
  · omega
theorem parts_one {w : World} {z : Option Addr} {p : Prt} {ps : List Prt} (h : PartsAt w z (p :: ps)) : PartsAt w z [p] := by
  intro k hk
  have hk0 : k = 0 := by simpa using hk
  subst hk0
  exact h 0 (by simp)
theorem touch_own {p : Prt} {ps : List Prt} {q a : Int} (h : partsOkP (p :: ps) = true) (hq : 0 ≤ q ∧ q ≤ 99) (ha : 0 ≤ a ∧ a ≤ 10000000) (h1 : p.1 = q) (h2 : p.2.1 ≤ a) (h3 : a ≤ p.2.2) : touchP [p] [(q, a, a)] = true := by
  simp only [partsOkP, List.all_cons, Bool.and_eq_true, List.length_cons, decide_eq_true_eq] at h
  have e1 : partsOkP [p] = true := by simp [partsOkP, h.1.1]
  have e2 : partsOkP [(q, a, a)] = true := by simp [partsOkP, partOk, inR]; omega
  simp [touchP, e1, e2, meets, h1, h2, h3]
theorem parts_len_of {ps : List Prt} {f : Int} (h1 : lenSum ps = f) (h2 : partsOkP ps = true) : partsLenP ps = f := by unfold partsLenP; rw [if_pos h2, h1]
theorem fnParts_walk (hio : InOrderDone) (a z : Option Addr) (cap zc : Nat) (code more : List Int) (w : World) (hB : Bys code) (hB' : Bys more) (hn : code.length ≤ maxLen) (hn' : more.length ≤ maxLen) (hx : BytesAt w a code) (hz : BytesAt w z more) :
    Calls Tryz.prog 3 #[.slice a code.length cap, .slice z more.length zc] w fun e w' => e = .returned (.bool true) ∧ Below w.heap.size w w' := by
  have HB := hide hB
  have HB' := hide hB'
  have HX := hide hx
  have HZ := hide hz
  have hcm : (code.length : Int) ≤ 9223372036854775807 := by unfold maxLen at hn; omega
  have hmm : (more.length : Int) ≤ 9223372036854775807 := by unfold maxLen at hn'; omega
  have hA := wholeP_bd hB' 3
  clear hB hB' hx hz hn hn'
  by_cases hc : (1048576 : Int) < (code.length : Int)
  · have hc1 : decide ((1048576 : Int) < (code.length : Int)) = true := by rw [decide_eq_true_iff]; exact hc
    go_enter Tryz.func3, Tryz.ntmps3
    go_wp2_with fail
    go_ret
    exact ⟨rfl, Below.refl _ _⟩
  by_cases hm : (1048576 : Int) < (more.length : Int)
  · have hc1 : decide ((1048576 : Int) < (code.length : Int)) = false := by rw [decide_eq_false_iff_not]; exact hc
    have hm1 : decide ((1048576 : Int) < (more.length : Int)) = true := by rw [decide_eq_true_iff]; exact hm
    go_enter Tryz.func3, Tryz.ntmps3
    go_wp2_with fail
    go_ret
    exact ⟨rfl, Below.refl _ _⟩
  have hc1 : decide ((1048576 : Int) < (code.length : Int)) = false := by rw [decide_eq_false_iff_not]; exact hc
  have hm1 : decide ((1048576 : Int) < (more.length : Int)) = false := by rw [decide_eq_false_iff_not]; exact hm
  have hcl : code.length ≤ 1048576 := by omega
  have hml : more.length ≤ 1048576 := by omega
  have hNB : NetBd (netOfCode code) := netP_bd code ⟨0, 0⟩
  generalize hAe : wholeP more 3 = A at hA
  have HAE := hide hAe
  clear hc hm hcm hmm hAe
  go_enter Tryz.func3, Tryz.ntmps3
  go_wp2_with fail
  refine (nets_any a cap code _ HB.out hcl HX.out).mono ?_
  rintro e w1 ⟨pa, ja, pcap, jcap, rfl, hPA, hJA, hb1⟩
  have HRI := hide (show netOk (netOfCode code) = (0, 0) from netP_right code ⟨0, 0⟩)
  generalize netOfCode code = N at *
  have HNB := hide hNB
  have hnp := hNB.few
  have hnj := hNB.joints
  have HS9 := hide (show ∀ p ∈ N.pcs, p.name.size ≤ 1048576 from fun p hp => Nat.le_trans (hNB.names p hp) (by decide))
  have HM9 := hide (show ∀ j ∈ N.jts, j.name.size ≤ 1048576 ∧ j.ends.length ≤ 1048576 from fun j hj => ⟨Nat.le_trans (hNB.jends j hj).1 (by decide), Nat.le_trans (hNB.jends j hj).2 (by decide)⟩)
  have HP1 := hide hPA
  have HJ1 := hide hJA
  have HBW := hide hb1
  clear hPA hJA hb1 hNB
  go_wp2_with fail
  have hA2 := (Below.refl w1.heap.size w1).alloc (Nat.le_refl _) (.cells #[.slice pa N.pcs.length pcap, .slice ja N.jts.length jcap] 26)
  have n0 := new_cell w1 #[.slice pa N.pcs.length pcap, .slice ja N.jts.length jcap] 26 0 _ rfl
  have n1 := new_cell w1 #[.slice pa N.pcs.length pcap, .slice ja N.jts.length jcap] 26 1 _ rfl
  have HP := hide (HP1.out.later hA2)
  have HJ := hide (HJ1.out.later hA2)
  have HBW := hide (HBW.out.trans (hA2.mono HBW.out.size))
  clear hA2 HP1 HJ1
  generalize w1.alloc (.cells #[.slice pa N.pcs.length pcap, .slice ja N.jts.length jcap] 26) = w2 at *
  generalize w1.heap.size = bn at *
  refine (aSpot_any pa ja z N pcap jcap zc more _ HNB.out HB'.out hml HP.out (HZ.out.later HBW.out)).mono ?_
  rintro e w6 ⟨rfl, hb6⟩
  have HSP := hide (spot_drawn HNB.out more)
  generalize spotQ N more = q at *
  generalize spotA N more = at' at *
  generalize spotW N more = wy at *
  have n0 := cell_later' hb6 n0
  have n1 := cell_later' hb6 n1
  have hltn0 := cell_lt n0
  have HP := hide (HP.out.later hb6)
  have HJ := hide (HJ.out.later hb6)
  have HBW := hide (HBW.out.trans (hb6.mono HBW.out.size))
  clear hb6
  go_wp2_with fail
  have hAl := (Below.refl w6.heap.size w6).alloc (Nat.le_refl _) (.cells #[.int .i64 q, .int .i64 at', .int .i64 wy] 29)
  have s0 := new_cell w6 #[.int .i64 q, .int .i64 at', .int .i64 wy] 29 0 _ rfl
  have s1 := new_cell w6 #[.int .i64 q, .int .i64 at', .int .i64 wy] 29 1 _ rfl
  have s2 := new_cell w6 #[.int .i64 q, .int .i64 at', .int .i64 wy] 29 2 _ rfl
  have n0 := cell_later' hAl n0
  have n1 := cell_later' hAl n1
  have hltn0 := cell_lt n0
  have HP := hide (HP.out.later hAl)
  have HJ := hide (HJ.out.later hAl)
  have HBW := hide (HBW.out.trans (hAl.mono HBW.out.size))
  clear hAl
  generalize w6.alloc (.cells #[.int .i64 q, .int .i64 at', .int .i64 wy] 29) = w7 at *
  generalize w6.heap.size = bs at *
  refine (lies_any pa ja z N pcap jcap zc more _ HNB.out HB'.out hml HJ.out (HZ.out.later HBW.out)).mono ?_
  rintro e w8 ⟨v, rfl, how, hb8⟩
  have HXL := hide (liesL_bd N more)
  have HLR := hide (lies_right N more)
  have hxl : (liesL N more).length ≤ 1048576 := by rw [liesL_len]; omega
  generalize liesL N more = xs at *
  obtain ⟨zl, zlc, rfl, hIL⟩ := ints_of_owns how
  have HIL := hide hIL
  clear hIL how
  have n0 := cell_later' hb8 n0
  have n1 := cell_later' hb8 n1
  have s0 := cell_later' hb8 s0
  have s1 := cell_later' hb8 s1
  have s2 := cell_later' hb8 s2
  have hltn0 := cell_lt n0
  have hlts0 := cell_lt s0
  have HP := hide (HP.out.later hb8)
  have HJ := hide (HJ.out.later hb8)
  have HBW := hide (HBW.out.trans (hb8.mono HBW.out.size))
  clear hb8
  go_wp2_with fail
  refine (wWhole_any z zc more 3 _ HB'.out hml (by omega) (HZ.out.later HBW.out)).mono ?_
  rintro e w9 ⟨rfl, hw9⟩
  subst hw9
  rw [HAE.out]
  have HWX := hide (show ∀ x ∈ xs, (Lit.int .i64 x).wf = true from fun x hx => by have := HXL.out x hx; exact wf_int (by omega) (by omega))
  have HSB := hide (show (0 ≤ q ∧ q < N.pcs.length) ∧ (wy = 1 ∨ wy = -1) ∧ (0 ≤ at' ∧ at' ≤ lenAt N q) by
    have h := HSP.out
    have hw := spot_way h
    simp only [spotP, inR, Bool.and_eq_true, decide_eq_true_eq] at h
    exact ⟨⟨h.1.1.1, by omega⟩, hw, h.2⟩)
  have HWF := hide (show Wf3 q at' wy by
    have h := HSB.out
    have hl := lenAt_le HNB.out q
    exact ⟨wf_int (by omega) (by omega), wf_int (by omega) (by omega), wf_int (by omega) (by omega)⟩)
  have HFA := hide (show (Lit.int .i64 A).wf = true from wf_int (by omega) (by omega))
  go_wp2_with fail
  refine (implDrive_any _ _ _ N _ _ _ xs q at' wy A _ HWF.out HFA.out HWX.out (by omega) HS9.out (by omega) HM9.out hxl HP.out HJ.out HIL.out).mono ?_
  rintro e w10 ⟨r, hDA, rfl, hb10⟩
  have HDA := hide hDA
  clear hDA
  have n0 := cell_later' hb10 n0
  have n1 := cell_later' hb10 n1
  have s0 := cell_later' hb10 s0
  have s1 := cell_later' hb10 s1
  have s2 := cell_later' hb10 s2
  have hltn0 := cell_lt n0
  have hlts0 := cell_lt s0
  have HP := hide (HP.out.later hb10)
  have HJ := hide (HJ.out.later hb10)
  have HBW := hide (HBW.out.trans (hb10.mono HBW.out.size))
  have HIL := hide (HIL.out.later hb10)
  clear hb10
  go_wp2_with fail
  have hAl := (Below.refl w10.heap.size w10).alloc (Nat.le_refl _) (.cells #[.int .i64 r.code, .int .i64 r.far, .int .i64 r.joint, .int .i64 r.q, .int .i64 r.at', .int .i64 r.way] 35)
  have x0 := new_cell w10 #[.int .i64 r.code, .int .i64 r.far, .int .i64 r.joint, .int .i64 r.q, .int .i64 r.at', .int .i64 r.way] 35 0 _ rfl
  have x1 := new_cell w10 #[.int .i64 r.code, .int .i64 r.far, .int .i64 r.joint, .int .i64 r.q, .int .i64 r.at', .int .i64 r.way] 35 1 _ rfl
  have x2 := new_cell w10 #[.int .i64 r.code, .int .i64 r.far, .int .i64 r.joint, .int .i64 r.q, .int .i64 r.at', .int .i64 r.way] 35 2 _ rfl
  have x3 := new_cell w10 #[.int .i64 r.code, .int .i64 r.far, .int .i64 r.joint, .int .i64 r.q, .int .i64 r.at', .int .i64 r.way] 35 3 _ rfl
  have x4 := new_cell w10 #[.int .i64 r.code, .int .i64 r.far, .int .i64 r.joint, .int .i64 r.q, .int .i64 r.at', .int .i64 r.way] 35 4 _ rfl
  have x5 := new_cell w10 #[.int .i64 r.code, .int .i64 r.far, .int .i64 r.joint, .int .i64 r.q, .int .i64 r.at', .int .i64 r.way] 35 5 _ rfl
  have n0 := cell_later' hAl n0
  have n1 := cell_later' hAl n1
  have s0 := cell_later' hAl s0
  have s1 := cell_later' hAl s1
  have s2 := cell_later' hAl s2
  have hltn0 := cell_lt n0
  have hlts0 := cell_lt s0
  have HP := hide (HP.out.later hAl)
  have HJ := hide (HJ.out.later hAl)
  have HBW := hide (HBW.out.trans (hAl.mono HBW.out.size))
  have HIL := hide (HIL.out.later hAl)
  clear hAl
  generalize w10.alloc (.cells #[.int .i64 r.code, .int .i64 r.far, .int .i64 r.joint, .int .i64 r.q, .int .i64 r.at', .int .i64 r.way] 35) = w11 at *
  generalize w10.heap.size = bx at *
  refine (implAhead_any _ _ _ N _ _ _ xs q at' wy A _ HWF.out HFA.out HWX.out (by omega) HS9.out (by omega) HM9.out hxl HP.out HJ.out HIL.out).mono ?_
  rintro e w12 ⟨ps, hAR, v, rfl, how, hb12⟩
  obtain ⟨za, zac, rfl, hcap, hPZ, hPA⟩ := parts_made how
  have HAR := hide hAR
  have HPZ := hide hPZ
  have HPA := hide hPA
  obtain ⟨l1, l2, hpl, l4, l5, l6⟩ := parts_law HNB.out HRI.out HLR.out HSP.out (by omega) HDA.out hAR
  have HL1 := hide l1
  have HL2 := hide l2
  have HL4 := hide l4
  have HL5 := hide l5
  have HL6 := hide l6
  clear l1 l2 l4 l5 l6 hAR hPZ hPA how
  have n0 := cell_later' hb12 n0
  have n1 := cell_later' hb12 n1
  have s0 := cell_later' hb12 s0
  have s1 := cell_later' hb12 s1
  have s2 := cell_later' hb12 s2
  have x0 := cell_later' hb12 x0
  have x1 := cell_later' hb12 x1
  have x2 := cell_later' hb12 x2
  have x3 := cell_later' hb12 x3
  have x4 := cell_later' hb12 x4
  have x5 := cell_later' hb12 x5
  have hltn0 := cell_lt n0
  have hlts0 := cell_lt s0
  have hltx0 := cell_lt x0
  have HP := hide (HP.out.later hb12)
  have HJ := hide (HJ.out.later hb12)
  have HBW := hide (HBW.out.trans (hb12.mono HBW.out.size))
  have HIL := hide (HIL.out.later hb12)
  clear hb12
  go_wp2_with fail
  refine (implBehind_any _ _ _ N _ _ _ xs q at' wy A _ HWF.out HFA.out HWX.out (by omega) HS9.out (by omega) HM9.out hxl HP.out HJ.out HIL.out).mono ?_
  rintro e w13 ⟨qs, hBR, v, rfl, how, hb13⟩
  obtain ⟨zb, zbc, rfl, hcapb, hPZB, hPB⟩ := parts_made how
  have HBR := hide hBR
  have HPZB := hide hPZB
  have HPB := hide hPB
  have hql := behind_few HRI.out HLR.out HSP.out hBR
  clear hBR hPZB hPB how
  have n0 := cell_later' hb13 n0
  have n1 := cell_later' hb13 n1
  have s0 := cell_later' hb13 s0
  have s1 := cell_later' hb13 s1
  have s2 := cell_later' hb13 s2
  have x0 := cell_later' hb13 x0
  have x1 := cell_later' hb13 x1
  have x2 := cell_later' hb13 x2
  have x3 := cell_later' hb13 x3
  have x4 := cell_later' hb13 x4
  have x5 := cell_later' hb13 x5
  have hltn0 := cell_lt n0
  have hlts0 := cell_lt s0
  have hltx0 := cell_lt x0
  have HP := hide (HP.out.later hb13)
  have HJ := hide (HJ.out.later hb13)
  have HBW := hide (HBW.out.trans (hb13.mono HBW.out.size))
  have HIL := hide (HIL.out.later hb13)
  have HPA := hide (HPA.out.later hb13)
  clear hb13
  have HTU := hide (show turnP N q at' wy = (q, at', -wy) by unfold turnP spotOkP; rw [HRI.out, HSP.out]; simp)
  have HTR := hide (show ∀ W : World, PcsAt W pa N.pcs → JtsAt W ja N.jts → Calls Tryz.prog 15 #[.agg #[.slice pa N.pcs.length pcap, .slice ja N.jts.length jcap], .agg #[.int .i64 q, .int .i64 at', .int .i64 wy]] W fun e w' => e = .returned (.agg #[.int .i64 q, .int .i64 at', .int .i64 (-wy)]) ∧ Below W.heap.size W w' from fun W h1 h2 => by
    have h := specTurn_any pa ja N pcap jcap q at' wy W (by omega) HS9.out (by omega) HM9.out h1 h2
    rw [HTU.out] at h
    exact h)
  have HBO := hide (show ∀ t, AheadR N xs q at' (-wy) A t → t = qs from fun t ht => by
    have h := behind_of (N := N) (xs := xs) (q := q) (at' := at') (way := wy) (far := A) (ps := t) (by rw [HTU.out]; exact ht)
    exact behind_one h HBR.out)
  have HPL := hide (parts_len_of HL1.out HL2.out)
  have HPS : Hid (PrS w13 w13 bn bs bx (.slice pa N.pcs.length pcap) (.slice ja N.jts.length jcap) q at' wy r) := ⟨⟨⟨n0, n1⟩, ⟨s0, s1, s2⟩, x0, x1, x2, x3, x4, x5⟩, Below.refl _ _⟩
  have h13 : Below w13.heap.size w13 w13.drew := (Below.refl _ _).drew
  have HM1 : Hid True := hide trivial
  have HM2 : Hid True := hide trivial
  clear n0 n1 s0 s1 s2 x0 x1 x2 x3 x4 x5
  go_upto_region 11 with fail
  go_region_held3 (fun w' => PrS w13 w' bn bs bx (.slice pa N.pcs.length pcap) (.slice ja N.jts.length jcap) q at' wy r)
    (first
      | (exact keepPr h13 HPS.out)
      | (exact keepPr (by assumption) (by assumption)))
    (first
      | (go_at_call 14; clear HM1; refine (specAhead_any _ _ _ N _ _ _ xs q at' wy A _ (by omega) HS9.out (by omega) HM9.out hxl (HP.out.later h13) (HJ.out.later h13) (HIL.out.later h13)).mono ?_; rintro e w14 ⟨ps', hAR', hlen', v, rfl, how14, hb14⟩; obtain rfl := ahead_one HAR.out hAR'; obtain ⟨z14, c14, rfl, _, _, hP14⟩ := parts_made how14)
      | (go_at_call 13; clear HM2; refine (wParts_same za _ ps _ _ _ (by omega) (HPA.out.later (chn h13 hb14)) hP14).mono ?_; rintro e w15 ⟨rfl, hb15⟩)
      | (go_at_call 15; refine (HTR.out _ (HP.out.later (chn (chn h13 hb14) hb15)) (HJ.out.later (chn (chn h13 hb14) hb15))).mono ?_; rintro e w16 ⟨rfl, hb16⟩)
      | (go_at_call 14; refine (specAhead_any _ _ _ N _ _ _ xs q at' (-wy) A _ (by omega) HS9.out (by omega) HM9.out hxl (HP.out.later (chn (chn (chn h13 hb14) hb15) hb16)) (HJ.out.later (chn (chn (chn h13 hb14) hb15) hb16)) (HIL.out.later (chn (chn (chn h13 hb14) hb15) hb16))).mono ?_; rintro e w17 ⟨ps', hAR', hlen', v, rfl, how17, hb17⟩; obtain rfl := HBO.out _ hAR'; obtain ⟨z17, c17, rfl, _, _, hP17⟩ := parts_made how17)
      | (go_at_call 13; refine (wParts_same zb _ ps' _ _ _ (by omega) (HPB.out.later (chn (chn (chn (chn h13 hb14) hb15) hb16) hb17)) hP17).mono ?_; rintro e w18 ⟨rfl, hb18⟩)
      | (go_at_call 16; refine (implPartsLen_any za ps _ _ (by omega) (HPA.out.later (chn (chn (chn (chn (chn h13 hb14) hb15) hb16) hb17) hb18))).mono ?_; rintro e w19 ⟨rfl, hb19⟩; rw [HPL.out]))
  rename_i hH
  have hb19' := hH.2.out
  obtain ⟨⟨n0, n1⟩, ⟨s0, s1, s2⟩, x0, x1, x2, x3, x4, x5⟩ := hH.1
  have HPA := hide (HPA.out.later hb19')
  have HPB := hide (HPB.out.later hb19')
  have HP := hide (HP.out.later hb19')
  have HBW := hide (HBW.out.trans (hb19'.mono HBW.out.size))
  have hqf : (r.far != r.far) = false := by simp
  clear hH hb19' hb14 hb15 hb16 hb17 hb18 hb19 hP14 hP17 hAR' how17 hlen' HPS h13 HTR HBO HPL HTU HAR HBR
  have hltn := cell_lt n0
  have hlts := cell_lt s0
  have hltx := cell_lt x0
  go_wp2_with fail
  go_loopw [13, 78] (fun _ i wr => ∃ (k : Nat), k ≤ ps.length ∧ i = .int .i64 k ∧ Below w19.heap.size w19 wr) (fun _ i _ => ps.length - (intOf i).toNat)
  case atStart => exact ⟨0, Nat.zero_le _, rfl, Below.refl _ _⟩
  case round =>
    obtain ⟨k, hk, rfl, hb⟩ := hrel
    by_cases hlt : k < ps.length
    · obtain ⟨b1, off, rfl, c0, c1, c2⟩ := (PartsAt.later HPA.out hb) k hlt
      have hll := cell_lt c0
      have hge : decide (ps[k].2.2 ≤ ps[k].2.1) = false := by
        rw [decide_eq_false_iff_not]
        have := HL4.out _ (List.getElem_mem hlt)
        omega
      go_wp2_with fail
      exact ⟨⟨k + 1, by omega, by go_num, hb.alloc hb.size _⟩, by simp [intOf]; omega⟩
    have n0 := cell_later' hb n0
    have n1 := cell_later' hb n1
    have s0 := cell_later' hb s0
    have s1 := cell_later' hb s1
    have s2 := cell_later' hb s2
    have x0 := cell_later' hb x0
    have x1 := cell_later' hb x1
    have x3 := cell_later' hb x3
    have x4 := cell_later' hb x4
    have HPA := hide (HPA.out.later hb)
    have HPB := hide (HPB.out.later hb)
    have HP := hide (HP.out.later hb)
    have HBW := hide (HBW.out.trans (hb.mono HBW.out.size))
    have hltn := cell_lt n0
    have hlts := cell_lt s0
    have hltx := cell_lt x0
    clear hb hk x2 x5
    have hqk : decide (k < ps.length) = false := by rw [decide_eq_false_iff_not]; exact hlt
    go_upto_if 90 with fail
    go_cut [14, 90] (fun _ _ wx => Below wr.heap.size wr wx)
    case first =>
      by_cases h0 : 0 < ps.length
      · have hi0 : (0 : Int) < (ps.length : Int) := by omega
        obtain ⟨m, hm⟩ : ∃ m, ps.length = m + 1 := ⟨ps.length - 1, by omega⟩
        have hidx : ((ps.length : Int) - 1) = ((m : Nat) : Int) := by omega
        have hlm : m < ps.length := by omega
        obtain ⟨b1, off, rfl, c0, c1, c2⟩ := HPA.out m hlm
        have hll := cell_lt c0
        have HLS := hide (show ps.getLast? = some ps[m] by rw [List.getLast?_eq_getElem?, hm]; simp [hlm])
        have HEL := hide (fun h => HL5.out h _ HLS.out)
        generalize ps[m] = L at *
        obtain ⟨L0, L1, L2⟩ := L
        dsimp only at c0 c1 c2 HEL
        by_cases hcode : r.code = 0
        · have q0 : (r.code == 0) = true := by rw [beq_iff_eq]; exact hcode
          obtain ⟨e1, e2⟩ := HEL.out hcode
          have q1 : (L0 != r.q) = false := by rw [e1]; simp
          clear hcode e1
          by_cases e3 : L1 = r.at'
          · have q2 : (L1 != r.at') = false := by rw [e3]; simp
            clear e2 e3
            go_wp2_with fail
            go_meet
            case rel => exact (Below.refl _ _).alloc (Nat.le_refl _) _
          · have q2 : (L1 != r.at') = true := by rw [bne_iff_ne]; exact e3
            have q3 : (L2 != r.at') = false := by rw [e2.resolve_left e3]; simp
            clear e2 e3
            go_wp2_with fail
            go_meet
            case rel => exact (Below.refl _ _).alloc (Nat.le_refl _) _
        · have q0 : (r.code == 0) = false := by rw [beq_eq_false_iff_ne]; exact hcode
          clear hcode
          cases q1 : (L0 != r.q)
          · go_wp2_with fail
            go_meet
            case rel => exact (Below.refl _ _).alloc (Nat.le_refl _) _
          · go_wp2_with fail
            go_meet
            case rel => exact (Below.refl _ _).alloc (Nat.le_refl _) _
      · go_wp2_with fail
        go_meet
        case rel => exact Below.refl _ _
    case rest =>
    have n0 := cell_later' hcut n0
    have s0 := cell_later' hcut s0
    have s1 := cell_later' hcut s1
    have hltn := cell_lt n0
    have hlts := cell_lt s0
    have HPA := hide (HPA.out.later hcut)
    have HPB := hide (HPB.out.later hcut)
    have HP := hide (HP.out.later hcut)
    have HBW := hide (HBW.out.trans (hcut.mono HBW.out.size))
    clear hcut n1 s2 x0 x1 x3 x4
    go_upto_region 23 with fail
    have hAl := (Below.refl wc.heap.size wc).alloc (Nat.le_refl _) (.cells #[.int .i64 q, .int .i64 at', .int .i64 at'] 43)
    have o0 := new_cell wc #[.int .i64 q, .int .i64 at', .int .i64 at'] 43 0 _ rfl
    have o1 := new_cell wc #[.int .i64 q, .int .i64 at', .int .i64 at'] 43 1 _ rfl
    have o2 := new_cell wc #[.int .i64 q, .int .i64 at', .int .i64 at'] 43 2 _ rfl
    have n0 := cell_later' hAl n0
    have s0 := cell_later' hAl s0
    have s1 := cell_later' hAl s1
    have hltn := cell_lt n0
    have hlts := cell_lt s0
    have HPA := hide (HPA.out.later hAl)
    have HPB := hide (HPB.out.later hAl)
    have HP := hide (HP.out.later hAl)
    have HBW := hide (HBW.out.trans (hAl.mono HBW.out.size))
    have HOW : Hid (PartsAt (wc.alloc (.cells #[.int .i64 q, .int .i64 at', .int .i64 at'] 43)) (some ⟨wc.heap.size, 0, none⟩) [(q, at', at')]) := fun k hk => by
      have hk0 : k = 0 := by simpa using hk
      subst hk0
      exact ⟨_, 0, rfl, o0, o1, o2⟩
    clear hAl o0 o1 o2
    generalize wc.alloc (.cells #[.int .i64 q, .int .i64 at', .int .i64 at'] 43) = w21 at *
    generalize wc.heap.size = bo at *
    go_cut [163] (fun c wx => c = .bool false ∧ Below w21.heap.size w21 wx)
    case first =>
      have k0 := cell_regrown s0
      have k1 := cell_regrown s1
      have k2 := cell_regrown n0
      cases ps with
      | nil =>
        refine wp_region_quiet_below (by kernel_rfl) (by kernel_rfl) ?_
        repeat (go_big_quiet_step (fail))
        refine wpQuiet_nil ?_
        intro _ hw'
        obtain ⟨⟨dq, osq⟩, hw''⟩ := hw'
        subst hw''
        go_wp2_with fail
        go_meet
        case rel => exact ⟨rfl, below_regrown w21 dq osq⟩
      | cons p0 ps =>
        have hlp : (0 : Int) < ((p0 :: ps).length : Int) := by simp
        have hlq : 0 < (p0 :: ps).length := by simp
        have HN1 := hide (show 1 ≤ (p0 :: ps).length by simp)
        generalize hnp0 : (p0 :: ps).length = np at *
        have hld : decide (0 < np) = true := decide_eq_true hlq
        have hle : decide ((0 : Int) < (np : Int)) = true := decide_eq_true hlp
        by_cases ha : 0 < at'
        · have qa : decide (0 < at') = true := decide_eq_true ha
          obtain ⟨kq, hkq⟩ := Int.eq_ofNat_of_zero_le HSB.out.1.1
          have hkl : kq < N.pcs.length := by have := HSB.out.1.2; omega
          subst hkq
          have hki : (kq : Int) < (N.pcs.length : Int) := by omega
          obtain ⟨bp, op, rfl, _, c1, _⟩ := HP.out kq hkl
          have k3 := cell_regrown c1
          have HLE := hide (lenAt_nat N kq hkl)
          by_cases hl : at' < N.pcs[kq].len
          · have ql : decide (at' < N.pcs[kq].len) = true := decide_eq_true hl
            have HT := hide (show touchP [p0] [((kq : Int), at', at')] = true by
              have h := HL6.out ha (by rw [HLE.out]; exact hl) p0 rfl
              have hle := lenAt_le HNB.out (kq : Int)
              rw [HLE.out] at hle
              exact touch_own HL2.out (by omega) (by omega) h.1 h.2.1 h.2.2)
            have h1c : 1 ≤ zac := by omega
            refine wp_region_quiet_below (by kernel_rfl) (by kernel_rfl) ?_
            repeat (go_big_quiet_step (first | exact touch_q hio za _ [p0] [((kq : Int), at', at')] 1 1 _ _ w21 rfl rfl (plain_one HPZ.out HN1.out) (.inl ⟨bo, 0, rfl⟩) (by simp) (by simp) (parts_one HPA.out) HOW.out HT.out _ _))
            refine wpQuiet_nil ?_
            intro _ hw'
            obtain ⟨⟨dq, osq⟩, hw''⟩ := hw'
            subst hw''
            go_wp2_with fail
            go_meet
            case rel => exact ⟨rfl, below_regrown w21 dq osq⟩
          · have ql : decide (at' < N.pcs[kq].len) = false := decide_eq_false hl
            refine wp_region_quiet_below (by kernel_rfl) (by kernel_rfl) ?_
            repeat (go_big_quiet_step (fail))
            refine wpQuiet_nil ?_
            intro _ hw'
            obtain ⟨⟨dq, osq⟩, hw''⟩ := hw'
            subst hw''
            go_wp2_with fail
            go_meet
            case rel => exact ⟨rfl, below_regrown w21 dq osq⟩
        · have qa : decide (0 < at') = false := decide_eq_false ha
          refine wp_region_quiet_below (by kernel_rfl) (by kernel_rfl) ?_
          repeat (go_big_quiet_step (fail))
          refine wpQuiet_nil ?_
          intro _ hw'
          obtain ⟨⟨dq, osq⟩, hw''⟩ := hw'
          subst hw''
          go_wp2_with fail
          go_meet
          case rel => exact ⟨rfl, below_regrown w21 dq osq⟩
    case rest =>
      obtain ⟨rfl, hb21⟩ := hcut
      have HPA := hide (HPA.out.later hb21)
      have HPB := hide (HPB.out.later hb21)
      have HBW := hide (HBW.out.trans (hb21.mono HBW.out.size))
      clear hb21 HOW HP n0 s0 s1
      go_wp2_with fail
      refine (implTouch_over hio za zb ps ps' zac zbc _ HPZ.out HPZB.out (by omega) (by omega) HPA.out HPB.out).mono ?_
      rintro e w22 ⟨rfl, hb22⟩
      have HPA := hide (HPA.out.later hb22)
      have HPB := hide (HPB.out.later hb22)
      have HBW := hide (HBW.out.trans (hb22.mono HBW.out.size))
      clear hb22
      go_wp2_with fail
      refine (implTouch_over hio zb za ps' ps zbc zac _ HPZB.out HPZ.out (by omega) (by omega) HPB.out HPA.out).mono ?_
      rintro e w23 ⟨rfl, hb23⟩
      have HPA := hide (HPA.out.later hb23)
      have HPB := hide (HPB.out.later hb23)
      have HBW := hide (HBW.out.trans (hb23.mono HBW.out.size))
      have HTS := hide (touchP_swap ps' ps)
      have HIO := hide (implTouch_over hio za zb ps ps' zac zbc _ HPZ.out HPZB.out (by omega) (by omega) HPA.out HPB.out)
      have HSO := hide (fun W hA hB => specTouch_any za zb ps ps' zac zbc W (by omega) (by omega) hA hB)
      rw [HTS.out]
      generalize touchP ps ps' = tp at *
      have htp : (tp == tp) = true := by simp
      clear hb23
      go_wp2_with fail
      refine HIO.out.mono ?_
      rintro e w24 ⟨rfl, hb24⟩
      have HPA := hide (HPA.out.later hb24)
      have HPB := hide (HPB.out.later hb24)
      have HBW := hide (HBW.out.trans (hb24.mono HBW.out.size))
      clear hb24
      go_wp2_with fail
      refine (HSO.out _ HPA.out HPB.out).mono ?_
      rintro e w25 ⟨rfl, hb25⟩
      have HBW := hide (HBW.out.trans (hb25.mono HBW.out.size))
      clear hb25
      go_wp2_with fail
      go_ret
      exact ⟨rfl, HBW.out⟩
end Go.Proofs.YtncanhbmbjoamaaGreat
