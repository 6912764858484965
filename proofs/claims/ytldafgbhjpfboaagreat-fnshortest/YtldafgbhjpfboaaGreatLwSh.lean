/- The law FnShortest's walk; written by gen_lwsh.py. Own work. -/
import Derived.Test.YtldafgbhjpfboaaGreatShD
import Derived.Test.YtldafgbhjpfboaaGreatMxBE
import Derived.Test.YtldafgbhjpfboaaGreatDlA
import Derived.Test.YtldafgbhjpfboaaGreatMxBG
import Derived.Test.YtldafgbhjpfboaaGreatMxAY
import Derived.Test.YtldafgbhjpfboaaGreatMxAU
import Derived.Deep.RegionHeld3
namespace Go.Proofs.YtldafgbhjpfboaaGreat
open Go.RowKit Go.Sort
set_option maxHeartbeats 16000000
set_option maxRecDepth 100000

theorem lenAt_le2 {N : Nt} (h : NetBd N) (q : Int) : 0 ≤ lenAt N q ∧ lenAt N q ≤ 300 := by
  unfold lenAt
  split
  · rename_i p hp
    have := h.lens p (List.mem_of_getElem? hp)
    omega
  · omega
abbrev Bx2 (w : World) (b : Nat) (v0 v1 : Value) : Prop := w.cell? ⟨b, 0, none⟩ = some v0 ∧ w.cell? ⟨b, 1, none⟩ = some v1
theorem Bx2.later {w w' : World} {b : Nat} {v0 v1 : Value} (h : Bx2 w b v0 v1) (hb : Below w.heap.size w w') : Bx2 w' b v0 v1 := ⟨cell_later' hb h.1, cell_later' hb h.2⟩
abbrev Bx3 (w : World) (b : Nat) (x y z : Int) : Prop := w.cell? ⟨b, 0, none⟩ = some (.int .i64 x) ∧ w.cell? ⟨b, 1, none⟩ = some (.int .i64 y) ∧ w.cell? ⟨b, 2, none⟩ = some (.int .i64 z)
theorem Bx3.later {w w' : World} {b : Nat} {x y z : Int} (h : Bx3 w b x y z) (hb : Below w.heap.size w w') : Bx3 w' b x y z := ⟨cell_later' hb h.1, cell_later' hb h.2.1, cell_later' hb h.2.2⟩
theorem spot_wf {N : Nt} {q a wy : Int} (h : NetBd N) (hs : spotP N q a wy = true) : Wf3 q a wy := by
  have hw := spot_way hs
  have hn := h.few
  have hl := lenAt_le2 h q
  simp only [spotP, inR, Bool.and_eq_true, decide_eq_true_eq] at hs
  exact ⟨wf_int (by omega) (by omega), wf_int (by omega) (by omega), wf_int (by omega) (by omega)⟩
theorem parts_row {w : World} {base : Nat} {e : TypeId} {v : Value} {ps : List (Int × Int × Int)} (h : w.ownsRow base e 3 v ps.length (partCells ps)) : ∃ z zc, v = .slice z ps.length zc ∧ PartsAt w z ps := by
  rcases parts_of_owns h with ⟨rfl, rfl⟩ | ⟨b, cap, rfl, hb, hn, hP, hR⟩
  · exact ⟨none, 0, rfl, fun k hk => by simp at hk⟩
  · exact ⟨_, cap, rfl, hP⟩
abbrev Box4 (w : World) (b : Nat) (v0 v1 v2 v3 : Value) : Prop := w.cell? ⟨b, 0, none⟩ = some v0 ∧ w.cell? ⟨b, 1, none⟩ = some v1 ∧ w.cell? ⟨b, 2, none⟩ = some v2 ∧ w.cell? ⟨b, 3, none⟩ = some v3
theorem Box4.later {w w' : World} {b : Nat} {v0 v1 v2 v3 : Value} (h : Box4 w b v0 v1 v2 v3) (hb : Below w.heap.size w w') : Box4 w' b v0 v1 v2 v3 := ⟨cell_later' hb h.1, cell_later' hb h.2.1, cell_later' hb h.2.2.1, cell_later' hb h.2.2.2⟩
abbrev ShS (w0 wx : World) (bn bs bp : Nat) (v0 v1 : Value) (q a wy : Int) (u0 u1 u2 u3 : Value) : Prop := (Bx2 wx bn v0 v1 ∧ Bx3 wx bs q a wy ∧ Box4 wx bp u0 u1 u2 u3) ∧ Hid (Below w0.heap.size w0 wx)
theorem keepSh {w0 w2 w3 : World} {bn bs bp : Nat} {v0 v1 : Value} {q a wy : Int} {u0 u1 u2 u3 : Value} (hb : Below w2.heap.size w2 w3) (h : ShS w0 w2 bn bs bp v0 v1 q a wy u0 u1 u2 u3) : ShS w0 w3 bn bs bp v0 v1 q a wy u0 u1 u2 u3 :=
  ⟨⟨h.1.1.later hb, h.1.2.1.later hb, h.1.2.2.later hb⟩, h.2.out.trans (hb.mono h.2.out.size)⟩
theorem zeroP_of {w w1 : World} (hb : Below (w.alloc (.cells #[.bool false, .int .i64 0, .slice none 0 0, .slice none 0 0] 34)).drew.heap.size (w.alloc (.cells #[.bool false, .int .i64 0, .slice none 0 0, .slice none 0 0] 34)).drew w1) : ZeroP w1 w.heap.size :=
  (ZeroP.new w).later (((Below.refl _ _).drew).trans hb)
theorem zeroP_of' {w w1 : World} (hb : Below (w.alloc (.cells #[.bool false, .int .i64 0, .slice none 0 0, .slice none 0 0] 34)).heap.size (w.alloc (.cells #[.bool false, .int .i64 0, .slice none 0 0, .slice none 0 0] 34)) w1) : ZeroP w1 w.heap.size :=
  (ZeroP.new w).later hb
theorem ints_set {w : World} {base : Nat} {zz : Option Addr} {n zc : Nat} {xs : List Int} (h : w.ownsRow base 3 1 (.slice zz n zc) n (xs.map (Value.int .i64))) (hn : xs.length = n) {j : Nat} (hj : j < n) : ∃ g, zz = some ⟨g, 0, none⟩ ∧ base ≤ g ∧ g < w.heap.size ∧ w.cell? ⟨g, j, none⟩ = some (.int .i64 (xs[j]'(by omega))) ∧ w.frozen? ⟨g, j, none⟩ = false ∧ ∀ y : Int, (w.setCell ⟨g, j, none⟩ (.int .i64 y)).ownsRow base 3 1 (.slice (some ⟨g, 0, none⟩) n zc) n ((xs.set j y).map (Value.int .i64)) := by
  subst hn
  rcases h.2 with ⟨h', h0⟩ | ⟨g, cap, cur, h', _⟩
  · omega
  · obtain ⟨rfl, rfl⟩ : zz = some ⟨g, 0, none⟩ ∧ zc = cap := by simpa using h'
    have hl := h.lt g rfl
    refine ⟨g, rfl, hl.1, hl.2, ?_, h.frozenAt j, fun y => ?_⟩
    · rw [h.cellAt j (by omega)]
      simp [hj]
    · have hs := (h.stored j (.int .i64 y)).1
      rw [List.map_set]
      exact hs
abbrev NS (w0 wx : World) (bn : Nat) (v0 v1 : Value) : Prop := Bx2 wx bn v0 v1 ∧ Hid (Below w0.heap.size w0 wx)
theorem keepNS {w0 w2 w3 : World} {bn : Nat} {v0 v1 : Value} (hb : Below w2.heap.size w2 w3) (h : NS w0 w2 bn v0 v1) : NS w0 w3 bn v0 v1 := ⟨h.1.later hb, h.2.out.trans (hb.mono h.2.out.size)⟩
theorem bytes3 (w : World) (x y u : Int) : BytesAt (w.alloc (.cells #[.int .u8 x, .int .u8 y, .int .u8 u] 5)) (some ⟨w.heap.size, 0, none⟩) [x, y, u] := by
  intro k hk
  have hk3 : k < 3 := by simpa using hk
  refine ⟨_, 0, rfl, ?_⟩
  have hc : k = 0 ∨ k = 1 ∨ k = 2 := by omega
  rcases hc with rfl | rfl | rfl
  · exact new_cell w _ _ 0 _ rfl
  · exact new_cell w _ _ 1 _ rfl
  · exact new_cell w _ _ 2 _ rfl
theorem wpAnyH_one {P : Program} {ops : Array Oper} {Q : Exit → Act → World → Prop} {md : Region.Mode} {S : World → Prop} {i : Nat} {o : Oper} {fuel : Nat} {listed : Array Bool} {a : Act} {w : World} (hr : Region.ready md ops listed = [i]) (ho : ops[i]? = some o)
    (h : ∀ K' : Act → World → Prop, Shut (∀ a w, S w → (S w → wpAnyH P md ops Q S fuel (listed.setIfInBounds i true) a w) → K' a w) → if Region.wanted o (yielded ops a.tmps) = true then Oper.wp P o a w K' Q else K' (a.put o.dst undef) w) : wpAnyH P md ops Q S (fuel + 1) listed a w :=
  wpAnyH_ready hr (by simp) (AllReadyH.cons ho h AllReadyH.nil)
theorem midS4 {W w2 : World} {bN bA bB b : Nat} {v0 v1 : Value} {q a wy q' a' wy' : Int} (hb : W.heap.size ≤ b) (hL : bN < W.heap.size) (hA : bA < W.heap.size) (hB : bB < W.heap.size) (h : SS W w2 bN bA bB v0 v1 q a wy q' a' wy') (_ : ZeroP w2 b) (x0 x1 x2 x3 : Value) : SS W (put4 w2 b x0 x1 x2 x3) bN bA bB v0 v1 q a wy q' a' wy' :=
  midS hb hL hA hB (mid4 _ _ _ _ _ _) (below4 h.2.out hb _ _ _ _) h
theorem ZeroP.put4 {w : World} {b : Nat} (h : ZeroP w b) (x0 x1 x2 x3 : Value) : (put4 w b x0 x1 x2 x3).cell? ⟨b, 0, none⟩ = some x0 ∧ (put4 w b x0 x1 x2 x3).cell? ⟨b, 1, none⟩ = some x1 := by
  obtain ⟨⟨h0, h1, h2, h3⟩, _⟩ := h
  exact ⟨by simp [go_sem, h0], by simp [go_sem, h1]⟩
theorem fnShortest_walk (a z : Option Addr) (cap zc : Nat) (code more : List Int) (w : World) (hB : Bys code) (hB' : Bys more) (hn : code.length ≤ maxLen) (hn' : more.length ≤ maxLen) (hx : BytesAt w a code) (hz : BytesAt w z more) :
    Calls Tryz.prog 3 #[.slice a code.length cap, .slice z more.length zc] w fun e w' => e = .returned (.bool true) ∧ Below w.heap.size w w' := by
  have HB := hide hB
  have HB' := hide hB'
  have HX := hide hx
  have HZ := hide hz
  have hcm : (code.length : Int) ≤ 9223372036854775807 := by unfold maxLen at hn; omega
  have hmm : (more.length : Int) ≤ 9223372036854775807 := by unfold maxLen at hn'; omega
  clear hB hB' hx hz hn hn'
  by_cases hc : (1048576 : Int) < (code.length : Int)
  · have hc1 : decide ((1048576 : Int) < (code.length : Int)) = true := by rw [decide_eq_true_iff]; exact hc
    go_enter Tryz.func3, Tryz.ntmps3
    go_wp2_with fail
    go_ret
    exact ⟨rfl, Below.refl _ _⟩
  by_cases hm : (1048576 : Int) < (more.length : Int)
  · have hc1 : decide ((1048576 : Int) < (code.length : Int)) = false := by rw [decide_eq_false_iff_not]; exact hc
    have hm1 : decide ((1048576 : Int) < (more.length : Int)) = true := by rw [decide_eq_true_iff]; exact hm
    go_enter Tryz.func3, Tryz.ntmps3
    go_wp2_with fail
    go_ret
    exact ⟨rfl, Below.refl _ _⟩
  have hc1 : decide ((1048576 : Int) < (code.length : Int)) = false := by rw [decide_eq_false_iff_not]; exact hc
  have hm1 : decide ((1048576 : Int) < (more.length : Int)) = false := by rw [decide_eq_false_iff_not]; exact hm
  have hcl : code.length ≤ 1048576 := by omega
  have hml : more.length ≤ 1048576 := by omega
  have hNB : NetBd (netOfCode code) := netP_bd code ⟨0, 0⟩
  clear hc hm hcm hmm
  go_enter Tryz.func3, Tryz.ntmps3
  go_wp2_with fail
  refine (nets_any a cap code _ HB.out hcl HX.out).mono ?_
  rintro e w1 ⟨pa, ja, pcap, jcap, rfl, hPA, hJA, hb1⟩
  have HRI := hide (show netOk (netOfCode code) = (0, 0) from netP_right code ⟨0, 0⟩)
  generalize netOfCode code = N at *
  have HNB := hide hNB
  have hnp := hNB.few
  have hnj := hNB.joints
  have HS9 := hide (show ∀ p ∈ N.pcs, p.name.size ≤ 1048576 from fun p hp => Nat.le_trans (hNB.names p hp) (by decide))
  have HM9 := hide (show ∀ j ∈ N.jts, j.name.size ≤ 1048576 ∧ j.ends.length ≤ 1048576 from fun j hj => ⟨Nat.le_trans (hNB.jends j hj).1 (by decide), Nat.le_trans (hNB.jends j hj).2 (by decide)⟩)
  have HP1 := hide hPA
  have HJ1 := hide hJA
  have HBW := hide hb1
  clear hPA hJA hb1 hNB
  go_wp2_with fail
  have hA2 := (Below.refl w1.heap.size w1).alloc (Nat.le_refl _) (.cells #[.slice pa N.pcs.length pcap, .slice ja N.jts.length jcap] 26)
  have n0 := new_cell w1 #[.slice pa N.pcs.length pcap, .slice ja N.jts.length jcap] 26 0 _ rfl
  have n1 := new_cell w1 #[.slice pa N.pcs.length pcap, .slice ja N.jts.length jcap] 26 1 _ rfl
  have HP := hide (HP1.out.later hA2)
  have HJ := hide (HJ1.out.later hA2)
  have HBW := hide (HBW.out.trans (hA2.mono HBW.out.size))
  clear hA2 HP1 HJ1
  generalize w1.alloc (.cells #[.slice pa N.pcs.length pcap, .slice ja N.jts.length jcap] 26) = w2 at *
  generalize w1.heap.size = bn at *
  refine (aSpot_any pa ja a N pcap jcap cap code _ HNB.out HB.out hcl HP.out (HX.out.later HBW.out)).mono ?_
  rintro e w3 ⟨rfl, hb3⟩
  have HSA := hide (spot_drawn HNB.out code)
  generalize spotQ N code = q at *
  generalize spotA N code = at1 at *
  generalize spotW N code = wy at *
  replace n0 := cell_later' hb3 n0
  replace n1 := cell_later' hb3 n1
  replace hltn0 := cell_lt n0
  replace HP := hide (HP.out.later hb3)
  replace HJ := hide (HJ.out.later hb3)
  replace HBW := hide (HBW.out.trans (hb3.mono HBW.out.size))
  clear hb3
  go_wp2_with fail
  have hAl := (Below.refl w3.heap.size w3).alloc (Nat.le_refl _) (.cells #[.int .i64 q, .int .i64 at1, .int .i64 wy] 29)
  have s0 := new_cell w3 #[.int .i64 q, .int .i64 at1, .int .i64 wy] 29 0 _ rfl
  have s1 := new_cell w3 #[.int .i64 q, .int .i64 at1, .int .i64 wy] 29 1 _ rfl
  have s2 := new_cell w3 #[.int .i64 q, .int .i64 at1, .int .i64 wy] 29 2 _ rfl
  replace n0 := cell_later' hAl n0
  replace n1 := cell_later' hAl n1
  replace hltn0 := cell_lt n0
  replace HP := hide (HP.out.later hAl)
  replace HJ := hide (HJ.out.later hAl)
  replace HBW := hide (HBW.out.trans (hAl.mono HBW.out.size))
  clear hAl
  generalize w3.alloc (.cells #[.int .i64 q, .int .i64 at1, .int .i64 wy] 29) = w4 at *
  generalize w3.heap.size = bs at *
  have hlts0 := cell_lt s0
  refine (aSpot_any pa ja z N pcap jcap zc more _ HNB.out HB'.out hml HP.out (HZ.out.later HBW.out)).mono ?_
  rintro e w5 ⟨rfl, hb5⟩
  have HSB := hide (spot_drawn HNB.out more)
  generalize spotQ N more = q' at *
  generalize spotA N more = at2 at *
  generalize spotW N more = wy' at *
  replace n0 := cell_later' hb5 n0
  replace n1 := cell_later' hb5 n1
  replace s0 := cell_later' hb5 s0
  replace s1 := cell_later' hb5 s1
  replace s2 := cell_later' hb5 s2
  replace hltn0 := cell_lt n0
  replace hlts0 := cell_lt s0
  replace HP := hide (HP.out.later hb5)
  replace HJ := hide (HJ.out.later hb5)
  replace HBW := hide (HBW.out.trans (hb5.mono HBW.out.size))
  clear hb5
  go_wp2_with fail
  have hAl := (Below.refl w5.heap.size w5).alloc (Nat.le_refl _) (.cells #[.int .i64 q', .int .i64 at2, .int .i64 wy'] 29)
  have t0 := new_cell w5 #[.int .i64 q', .int .i64 at2, .int .i64 wy'] 29 0 _ rfl
  have t1 := new_cell w5 #[.int .i64 q', .int .i64 at2, .int .i64 wy'] 29 1 _ rfl
  have t2 := new_cell w5 #[.int .i64 q', .int .i64 at2, .int .i64 wy'] 29 2 _ rfl
  replace n0 := cell_later' hAl n0
  replace n1 := cell_later' hAl n1
  replace s0 := cell_later' hAl s0
  replace s1 := cell_later' hAl s1
  replace s2 := cell_later' hAl s2
  replace hltn0 := cell_lt n0
  replace hlts0 := cell_lt s0
  replace HP := hide (HP.out.later hAl)
  replace HJ := hide (HJ.out.later hAl)
  replace HBW := hide (HBW.out.trans (hAl.mono HBW.out.size))
  clear hAl
  generalize w5.alloc (.cells #[.int .i64 q', .int .i64 at2, .int .i64 wy'] 29) = w6 at *
  generalize w5.heap.size = bt at *
  have hltt0 := cell_lt t0
  obtain ⟨o, ho⟩ : ∃ o, shortP N HRI.out q at1 wy q' at2 wy' = o := ⟨_, rfl⟩
  have HBD := hide (shortO_bd (hr := HRI.out) HNB.out HSA.out HSB.out)
  have HSX := hide (fun h => shortO_stretch (hr := HRI.out) HNB.out HSA.out HSB.out h)
  have HTN := hide (shortO_turn (hr := HRI.out) HSA.out HSB.out)
  have HDR := hide (fun (xs : List Int) (far : Int) (t : DRes) h h0 h1 h2 h3 => shortO_drive (hr := HRI.out) (q := q) (a := at1) (wy := wy) (q' := q') (a' := at2) (wy' := wy') (xs := xs) (far := far) (t := t) h h0 h1 h2 h3)
  rw [ho] at HBD HSX HTN HDR
  have HO := hide ho
  have HWA := hide (spot_wf HNB.out HSA.out)
  have HWB := hide (spot_wf HNB.out HSB.out)
  have HWA' := hide (spot_wf HNB.out (spot_flip HSA.out))
  have HWB' := hide (spot_wf HNB.out (spot_flip HSB.out))
  have HTA := hide (turn_ok HRI.out HSA.out)
  have HTB := hide (turn_ok HRI.out HSB.out)
  clear ho
  refine (implShortest_any pa ja N pcap jcap q at1 wy q' at2 wy' _ HRI.out HWA.out HWB.out HSA.out HSB.out (by omega) HS9.out (by omega) HM9.out HP.out HJ.out).mono ?_
  rintro e w7 ⟨v, rfl, hPR, hb7⟩
  rw [HO.out] at hPR
  obtain ⟨z1, c1, y1, d1, rfl, hE1, hL1, hl4⟩ := hPR.shape
  have HZ1 := hide hE1
  have HL1 := hide hL1
  replace n0 := cell_later' hb7 n0
  replace n1 := cell_later' hb7 n1
  replace s0 := cell_later' hb7 s0
  replace s1 := cell_later' hb7 s1
  replace s2 := cell_later' hb7 s2
  replace t0 := cell_later' hb7 t0
  replace t1 := cell_later' hb7 t1
  replace t2 := cell_later' hb7 t2
  replace hltn0 := cell_lt n0
  replace hlts0 := cell_lt s0
  replace hltt0 := cell_lt t0
  replace HP := hide (HP.out.later hb7)
  replace HJ := hide (HJ.out.later hb7)
  replace HBW := hide (HBW.out.trans (hb7.mono HBW.out.size))
  clear hb7 hPR hE1 hL1
  go_wp2_with fail
  have hAl := (Below.refl w7.heap.size w7).alloc (Nat.le_refl _) (.cells #[.bool o.isSome, .int .i64 (farO o), .slice z1 (ssO o).length c1, .slice y1 (lsO N o).length d1] 34)
  have p0 := new_cell w7 #[.bool o.isSome, .int .i64 (farO o), .slice z1 (ssO o).length c1, .slice y1 (lsO N o).length d1] 34 0 _ rfl
  have p1 := new_cell w7 #[.bool o.isSome, .int .i64 (farO o), .slice z1 (ssO o).length c1, .slice y1 (lsO N o).length d1] 34 1 _ rfl
  have p2 := new_cell w7 #[.bool o.isSome, .int .i64 (farO o), .slice z1 (ssO o).length c1, .slice y1 (lsO N o).length d1] 34 2 _ rfl
  have p3 := new_cell w7 #[.bool o.isSome, .int .i64 (farO o), .slice z1 (ssO o).length c1, .slice y1 (lsO N o).length d1] 34 3 _ rfl
  replace n0 := cell_later' hAl n0
  replace n1 := cell_later' hAl n1
  replace s0 := cell_later' hAl s0
  replace s1 := cell_later' hAl s1
  replace s2 := cell_later' hAl s2
  replace t0 := cell_later' hAl t0
  replace t1 := cell_later' hAl t1
  replace t2 := cell_later' hAl t2
  replace hltn0 := cell_lt n0
  replace hlts0 := cell_lt s0
  replace hltt0 := cell_lt t0
  replace HP := hide (HP.out.later hAl)
  replace HJ := hide (HJ.out.later hAl)
  replace HBW := hide (HBW.out.trans (hAl.mono HBW.out.size))
  replace HZ1 := hide (HZ1.out.later hAl)
  replace HL1 := hide (HL1.out.later hAl)
  clear hAl
  generalize w7.alloc (.cells #[.bool o.isSome, .int .i64 (farO o), .slice z1 (ssO o).length c1, .slice y1 (lsO N o).length d1] 34) = w8 at *
  generalize w7.heap.size = bp at *
  have hltp0 := cell_lt p0
  refine (specShortest_any pa ja N pcap jcap q at1 wy q' at2 wy' _ HRI.out HSA.out HSB.out (by omega) HS9.out (by omega) HM9.out HP.out HJ.out).mono ?_
  rintro e w9 ⟨v, rfl, hPR, hb9⟩
  rw [HO.out] at hPR
  obtain ⟨z2, c2, y2, d2, rfl, hE2, hL2, _⟩ := hPR.shape
  have HZ2 := hide hE2
  have HL2 := hide hL2
  replace n0 := cell_later' hb9 n0
  replace n1 := cell_later' hb9 n1
  replace s0 := cell_later' hb9 s0
  replace s1 := cell_later' hb9 s1
  replace s2 := cell_later' hb9 s2
  replace t0 := cell_later' hb9 t0
  replace t1 := cell_later' hb9 t1
  replace t2 := cell_later' hb9 t2
  replace p0 := cell_later' hb9 p0
  replace p1 := cell_later' hb9 p1
  replace p2 := cell_later' hb9 p2
  replace p3 := cell_later' hb9 p3
  replace hltn0 := cell_lt n0
  replace hlts0 := cell_lt s0
  replace hltt0 := cell_lt t0
  replace hltp0 := cell_lt p0
  replace HP := hide (HP.out.later hb9)
  replace HJ := hide (HJ.out.later hb9)
  replace HBW := hide (HBW.out.trans (hb9.mono HBW.out.size))
  replace HZ1 := hide (HZ1.out.later hb9)
  replace HL1 := hide (HL1.out.later hb9)
  clear hb9 hPR hE2 hL2
  have HSC := hide (show ∀ W : World, PcsAt W pa N.pcs → JtsAt W ja N.jts → Calls Tryz.prog 6 #[.agg #[.slice pa N.pcs.length pcap, .slice ja N.jts.length jcap], .agg #[.int .i64 q', .int .i64 at2, .int .i64 (-wy')], .agg #[.int .i64 q, .int .i64 at1, .int .i64 (-wy)]] W fun e w' => ∃ x0 x1 x2 x3 x4 x5, e = .returned (.agg #[.bool o.isSome, .int .i64 (farO o), .slice x0 x1 x2, .slice x3 x4 x5]) ∧ Below W.heap.size W w' from fun W h1 h2 => by
    refine (implShortest_any pa ja N pcap jcap q' at2 (-wy') q at1 (-wy) _ HRI.out HWB'.out HWA'.out (spot_flip HSB.out) (spot_flip HSA.out) (by omega) HS9.out (by omega) HM9.out h1 h2).mono ?_
    rintro e w7 ⟨v, rfl, hPR, hb7⟩
    obtain ⟨z1, c1, y1, d1, rfl, _⟩ := hPR.shape
    rw [HTN.out.1, HTN.out.2]
    exact ⟨_, _, _, _, _, _, rfl, hb7⟩)
  clear HTN HO
  generalize o.isSome = ok at *
  generalize farO o = fr at *
  generalize ssO o = ss at *
  generalize lsO N o = ls at *
  obtain ⟨hfr0, hfr1, hss, hlb⟩ := HBD.out
  have HLB := hide hlb
  have hq1 : (ok != ok) = false := by simp
  have hq2 : (fr != fr) = false := by simp
  have hq3 : ((ss.length : Int) != (ss.length : Int)) = false := by simp
  have hq4 : ((ls.length : Int) != (ls.length : Int)) = false := by simp
  clear hlb HBD
  go_wp2_with fail
  have hAl := (Below.refl w9.heap.size w9).alloc (Nat.le_refl _) (.cells #[.bool ok, .int .i64 fr, .slice z2 ss.length c2, .slice y2 ls.length d2] 34)
  have v0 := new_cell w9 #[.bool ok, .int .i64 fr, .slice z2 ss.length c2, .slice y2 ls.length d2] 34 0 _ rfl
  have v1 := new_cell w9 #[.bool ok, .int .i64 fr, .slice z2 ss.length c2, .slice y2 ls.length d2] 34 1 _ rfl
  have v2 := new_cell w9 #[.bool ok, .int .i64 fr, .slice z2 ss.length c2, .slice y2 ls.length d2] 34 2 _ rfl
  have v3 := new_cell w9 #[.bool ok, .int .i64 fr, .slice z2 ss.length c2, .slice y2 ls.length d2] 34 3 _ rfl
  replace n0 := cell_later' hAl n0
  replace n1 := cell_later' hAl n1
  replace s0 := cell_later' hAl s0
  replace s1 := cell_later' hAl s1
  replace s2 := cell_later' hAl s2
  replace t0 := cell_later' hAl t0
  replace t1 := cell_later' hAl t1
  replace t2 := cell_later' hAl t2
  replace p0 := cell_later' hAl p0
  replace p1 := cell_later' hAl p1
  replace p2 := cell_later' hAl p2
  replace p3 := cell_later' hAl p3
  replace hltn0 := cell_lt n0
  replace hlts0 := cell_lt s0
  replace hltt0 := cell_lt t0
  replace hltp0 := cell_lt p0
  replace HP := hide (HP.out.later hAl)
  replace HJ := hide (HJ.out.later hAl)
  replace HBW := hide (HBW.out.trans (hAl.mono HBW.out.size))
  replace HZ1 := hide (HZ1.out.later hAl)
  replace HL1 := hide (HL1.out.later hAl)
  replace HZ2 := hide (HZ2.out.later hAl)
  replace HL2 := hide (HL2.out.later hAl)
  clear hAl
  generalize w9.alloc (.cells #[.bool ok, .int .i64 fr, .slice z2 ss.length c2, .slice y2 ls.length d2] 34) = w10 at *
  generalize w9.heap.size = bw at *
  have hltv0 := cell_lt v0
  go_loopw [10, 77] (fun _ i wr => ∃ (k : Nat), k ≤ ss.length ∧ i = .int .i64 k ∧ Below w10.heap.size w10 wr) (fun _ i _ => ss.length - (intOf i).toNat)
  case atStart => exact ⟨0, Nat.zero_le _, rfl, Below.refl _ _⟩
  case round =>
    obtain ⟨k, hk, rfl, hb⟩ := hrel
    by_cases hlt : k < ss.length
    · have hki : (k : Int) < (ss.length : Int) := by omega
      have p2 := cell_later' hb p2
      have v2 := cell_later' hb v2
      have hltx := cell_lt p2
      have hlty := cell_lt v2
      obtain ⟨b1, o1, rfl, e0, e1⟩ := (HZ1.out.later hb) k hlt
      obtain ⟨b2, o2, rfl, g0, g1⟩ := (HZ2.out.later hb) k hlt
      have hlt1 := cell_lt e0
      have hlt2 := cell_lt g0
      go_upto_region 13 with fail
      go_quiet (fail)
      go_wp2_with fail
      go_roundw
      case rel => exact ⟨k + 1, by omega, by go_num, below_drewN hb _⟩
      case measure => simp [intOf]; omega
    · have hke : k = ss.length := by omega
      subst hke
      rename World => w11
      replace n0 := cell_later' hb n0
      replace n1 := cell_later' hb n1
      replace s0 := cell_later' hb s0
      replace s1 := cell_later' hb s1
      replace s2 := cell_later' hb s2
      replace t0 := cell_later' hb t0
      replace t1 := cell_later' hb t1
      replace t2 := cell_later' hb t2
      replace p0 := cell_later' hb p0
      replace p1 := cell_later' hb p1
      replace p2 := cell_later' hb p2
      replace p3 := cell_later' hb p3
      replace v0 := cell_later' hb v0
      replace v1 := cell_later' hb v1
      replace v2 := cell_later' hb v2
      replace v3 := cell_later' hb v3
      replace hltn0 := cell_lt n0
      replace hlts0 := cell_lt s0
      replace hltt0 := cell_lt t0
      replace hltp0 := cell_lt p0
      replace hltv0 := cell_lt v0
      replace HP := hide (HP.out.later hb)
      replace HJ := hide (HJ.out.later hb)
      replace HBW := hide (HBW.out.trans (hb.mono HBW.out.size))
      replace HZ1 := hide (HZ1.out.later hb)
      replace HL1 := hide (HL1.out.later hb)
      replace HZ2 := hide (HZ2.out.later hb)
      replace HL2 := hide (HL2.out.later hb)
      clear hb
      go_wp2_with fail
      go_loopw [11, 95] (fun _ i wr => ∃ (k : Nat), k ≤ ls.length ∧ i = .int .i64 k ∧ Below w11.heap.size w11 wr) (fun _ i _ => ls.length - (intOf i).toNat)
      case atStart => exact ⟨0, Nat.zero_le _, rfl, Below.refl _ _⟩
      case round =>
        obtain ⟨k, hk, rfl, hb⟩ := hrel
        by_cases hlt : k < ls.length
        · have hki : (k : Int) < (ls.length : Int) := by omega
          have p3 := cell_later' hb p3
          have v3 := cell_later' hb v3
          have hltx := cell_lt p3
          have hlty := cell_lt v3
          obtain ⟨b1, o1, rfl, e0, e1⟩ := (HL1.out.later hb) k hlt
          obtain ⟨b2, o2, rfl, g0, g1⟩ := (HL2.out.later hb) k hlt
          have hlt1 := cell_lt e0
          have hlt2 := cell_lt g0
          go_upto_region 19 with fail
          go_quiet (fail)
          go_wp2_with fail
          go_roundw
          case rel => exact ⟨k + 1, by omega, by go_num, below_drewN hb _⟩
          case measure => simp [intOf]; omega
        · have hke : k = ls.length := by omega
          subst hke
          skip
          replace n0 := cell_later' hb n0
          replace n1 := cell_later' hb n1
          replace s0 := cell_later' hb s0
          replace s1 := cell_later' hb s1
          replace s2 := cell_later' hb s2
          replace t0 := cell_later' hb t0
          replace t1 := cell_later' hb t1
          replace t2 := cell_later' hb t2
          replace p0 := cell_later' hb p0
          replace p1 := cell_later' hb p1
          replace p2 := cell_later' hb p2
          replace p3 := cell_later' hb p3
          replace v0 := cell_later' hb v0
          replace v1 := cell_later' hb v1
          replace v2 := cell_later' hb v2
          replace v3 := cell_later' hb v3
          replace hltn0 := cell_lt n0
          replace hlts0 := cell_lt s0
          replace hltt0 := cell_lt t0
          replace hltp0 := cell_lt p0
          replace hltv0 := cell_lt v0
          replace HP := hide (HP.out.later hb)
          replace HJ := hide (HJ.out.later hb)
          replace HBW := hide (HBW.out.trans (hb.mono HBW.out.size))
          replace HZ1 := hide (HZ1.out.later hb)
          replace HL1 := hide (HL1.out.later hb)
          replace HZ2 := hide (HZ2.out.later hb)
          replace HL2 := hide (HL2.out.later hb)
          clear hb
          rename World => w12
          go_upto_region 22 with fail
          have HS0 : Hid (SS w12 w12 bn bs bt (.slice pa N.pcs.length pcap) (.slice ja N.jts.length jcap) q at1 wy q' at2 wy') := ⟨⟨n0, n1, s0, s1, s2, t0, t1, t2⟩, Below.refl _ _⟩
          have HK1 := hide (keepS ((Below.refl w12.heap.size w12).drew) HS0.out)
          have HK2 := hide (keepS (((Below.refl w12.heap.size w12).alloc (Nat.le_refl _) (.cells #[.bool false, .int .i64 0, .slice none 0 0, .slice none 0 0] 34)).drew) HS0.out)
          have HPS := hide (fun wx (h : SS w12 wx bn bs bt (.slice pa N.pcs.length pcap) (.slice ja N.jts.length jcap) q at1 wy q' at2 wy') => HP.out.later (heldS h))
          have HJS := hide (fun wx (h : SS w12 wx bn bs bt (.slice pa N.pcs.length pcap) (.slice ja N.jts.length jcap) q at1 wy q' at2 wy') => HJ.out.later (heldS h))
          have HM1 : Hid True := hide trivial
          go_cut [12] from 20 to 243 (fun s12 wz => ∃ bq, s12 = .pointer (some ⟨bq, 0, none⟩) ∧ wz.cell? ⟨bq, 0, none⟩ = some (.bool ok) ∧ wz.cell? ⟨bq, 1, none⟩ = some (.int .i64 fr) ∧ Hid (Below w12.heap.size w12 wz))
          case first => as_aux_lemma =>
            clear n0 n1 s0 s1 s2 t0 t1 t2 p0 p1 p2 p3 v0 v1 v2 v3
            go_region_held3 (fun wx => SS w12 wx bn bs bt (.slice pa N.pcs.length pcap) (.slice ja N.jts.length jcap) q at1 wy q' at2 wy')
              (first
                | (with_reducible exact HK1.out)
                | (with_reducible exact HK2.out)
                | (with_reducible exact HGV.out)
                | (with_reducible exact HGVa.out)
                | (with_reducible exact HGVf.out)
                | (with_reducible exact HGVp.out)
                | (with_reducible exact HGU.out)
                | (with_reducible exact HGUa.out)
                | (with_reducible exact HGT.out)
                | (with_reducible exact HGTa.out))
              (first
                | (go_at_call 8; clear HM1; refine (implTurn_any pa ja N pcap jcap _ _ _ _ (by first | exact HWA.out | exact HWB.out) (by omega) HS9.out (by omega) HM9.out (HPS.out _ (by assumption)) (HJS.out _ (by assumption))).mono ?_; rintro e wT ⟨rfl, hbT⟩; (first | rw [HTA.out] | rw [HTB.out]); dsimp only; have HGT : Hid (SS w12 wT bn bs bt (.slice pa N.pcs.length pcap) (.slice ja N.jts.length jcap) q at1 wy q' at2 wy') := keepS hbT (by assumption); have HGTa := hide (keepS ((Below.refl wT.heap.size wT).alloc (Nat.le_refl _) (.cells #[.bool false, .int .i64 0, .slice none 0 0, .slice none 0 0] 34)) HGT.out); have sT : w12.heap.size ≤ wT.heap.size := (heldS HGT.out).size; (first | (with_reducible (have hC : Below w12.drew.heap.size w12.drew wT := hbT)) | (have HZc : Hid (ZeroP wT w12.heap.size) := zeroP_of hbT)); clear hbT)
                | (go_at_call 8; refine (implTurn_any pa ja N pcap jcap _ _ _ _ (by first | exact HWA.out | exact HWB.out) (by omega) HS9.out (by omega) HM9.out (HPS.out _ (by assumption)) (HJS.out _ (by assumption))).mono ?_; rintro e wU ⟨rfl, hbU⟩; (first | rw [HTA.out] | rw [HTB.out]); dsimp only; have HGU : Hid (SS w12 wU bn bs bt (.slice pa N.pcs.length pcap) (.slice ja N.jts.length jcap) q at1 wy q' at2 wy') := keepS hbU (by assumption); have HGUa := hide (keepS ((Below.refl wU.heap.size wU).alloc (Nat.le_refl _) (.cells #[.bool false, .int .i64 0, .slice none 0 0, .slice none 0 0] 34)) HGU.out); have sU : w12.heap.size ≤ wU.heap.size := (heldS HGU.out).size; (first | ((with_reducible (have hD : Below wT.heap.size wT wU := hbU)); (first | (have HZc := hide (HZc.out.later hbU)) | skip)) | (have HZc : Hid (ZeroP wU wT.heap.size) := zeroP_of' hbU)); clear hbU)
                | (go_at_call 6; refine (HSC.out _ (HPS.out _ (by assumption)) (HJS.out _ (by assumption))).mono ?_; rintro e wV ⟨x0, x1, x2, x3, x4, x5, rfl, hbV⟩; have HGV : Hid (SS w12 wV bn bs bt (.slice pa N.pcs.length pcap) (.slice ja N.jts.length jcap) q at1 wy q' at2 wy') := keepS hbV (by assumption); have HGVa := hide (keepS ((Below.refl wV.heap.size wV).alloc (Nat.le_refl _) (.cells #[.bool false, .int .i64 0, .slice none 0 0, .slice none 0 0] 34)) HGV.out); have HGVf := hide (keepS ((Below.refl wV.heap.size wV).alloc (Nat.le_refl _) (.cells #[.bool ok, .int .i64 fr, .slice x0 x1 x2, .slice x3 x4 x5] 34)) HGV.out); have sV : w12.heap.size ≤ wV.heap.size := (heldS HGV.out).size; (first | ((with_reducible (have hD : Below wU.heap.size wU wV := hbV)); (first | (have HZc := hide (HZc.out.later hbV)) | skip)) | (have HZc : Hid (ZeroP wV wU.heap.size) := zeroP_of' hbV)); (first | (have HGVp := hide (midS4 (by omega) hltn0 hlts0 hltt0 HGV.out HZc.out (.bool ok) (.int .i64 fr) (.slice x0 x1 x2) (.slice x3 x4 x5)); obtain ⟨⟨x6, x7, x8, x9⟩, fz, _⟩ := HZc.out; have f0 := fz 0; have f1 := fz 1; have f2 := fz 2; have f3 := fz 3; have hal0 := cell_lt x6; clear fz) | skip); clear hbV))
            all_goals
              first
                | (have hc0 := (HZc.out.put4 (.bool ok) (.int .i64 fr) (.slice x0 x1 x2) (.slice x3 x4 x5)).1; have hc1 := (HZc.out.put4 (.bool ok) (.int .i64 fr) (.slice x0 x1 x2) (.slice x3 x4 x5)).2; have HBP := hide HGVp.out.2.out; go_wp2_with fail; go_meet; (case rel => exact ⟨_, rfl, hc0, hc1, HBP⟩))
                | (have hc0 := new_cell wV #[.bool ok, .int .i64 fr, .slice x0 x1 x2, .slice x3 x4 x5] 34 0 (.bool ok) rfl; have hc1 := new_cell wV #[.bool ok, .int .i64 fr, .slice x0 x1 x2, .slice x3 x4 x5] 34 1 (.int .i64 fr) rfl; have HBP := hide HGVf.out.2.out; go_wp2_with fail; go_meet; (case rel => exact ⟨_, rfl, hc0, hc1, HBP⟩))
          case rest =>
            obtain ⟨bq, rfl, u0, u1, HBQ⟩ := hcut
            rename World => w13
            have hb := HBQ.out
            have hltu0 := cell_lt u0
            replace n0 := cell_later' hb n0
            replace n1 := cell_later' hb n1
            replace s0 := cell_later' hb s0
            replace s1 := cell_later' hb s1
            replace s2 := cell_later' hb s2
            replace t0 := cell_later' hb t0
            replace t1 := cell_later' hb t1
            replace t2 := cell_later' hb t2
            replace p0 := cell_later' hb p0
            replace p1 := cell_later' hb p1
            replace p2 := cell_later' hb p2
            replace p3 := cell_later' hb p3
            replace v0 := cell_later' hb v0
            replace v1 := cell_later' hb v1
            replace v2 := cell_later' hb v2
            replace v3 := cell_later' hb v3
            replace hltn0 := cell_lt n0
            replace hlts0 := cell_lt s0
            replace hltt0 := cell_lt t0
            replace hltp0 := cell_lt p0
            replace hltv0 := cell_lt v0
            replace HP := hide (HP.out.later hb)
            replace HJ := hide (HJ.out.later hb)
            replace HBW := hide (HBW.out.trans (hb.mono HBW.out.size))
            replace HZ1 := hide (HZ1.out.later hb)
            replace HL1 := hide (HL1.out.later hb)
            replace HZ2 := hide (HZ2.out.later hb)
            replace HL2 := hide (HL2.out.later hb)
            clear v0 v1 v2 v3
            clear hb HBQ HS0 HK1 HK2 HPS HJS HM1 HSC HTA HTB HWA' HWB'
            go_wp2_with fail
            refine (lies_any pa ja z N pcap jcap zc more _ HNB.out HB'.out hml HJ.out (HZ.out.later HBW.out)).mono ?_
            rintro e w14 ⟨v, rfl, how, hb14⟩
            have hxb := liesL_bd N more
            have hxl := liesL_len N more
            obtain ⟨zz, zc', hv, hIL⟩ := ints_of_owns how
            have HIL := hide hIL
            rw [hxl] at hv how
            generalize liesL N more = xs at *
            subst hv
            have HOW := hide how
            have HB14 := hide hb14
            clear how hIL hb14
            cases ok with
            | false =>
              have HXW := hide (show ∀ x ∈ xs, (Lit.int .i64 x).wf = true from fun x hx => by have := hxb x hx; exact wf_int (by omega) (by omega))
              have hb := HB14.out
              replace n0 := cell_later' hb n0
              replace n1 := cell_later' hb n1
              replace s0 := cell_later' hb s0
              replace s1 := cell_later' hb s1
              replace s2 := cell_later' hb s2
              replace t0 := cell_later' hb t0
              replace t1 := cell_later' hb t1
              replace t2 := cell_later' hb t2
              replace p0 := cell_later' hb p0
              replace p1 := cell_later' hb p1
              replace p2 := cell_later' hb p2
              replace p3 := cell_later' hb p3
              replace hltn0 := cell_lt n0
              replace hlts0 := cell_lt s0
              replace hltt0 := cell_lt t0
              replace hltp0 := cell_lt p0
              replace HP := hide (HP.out.later hb)
              replace HJ := hide (HJ.out.later hb)
              replace HBW := hide (HBW.out.trans (hb.mono HBW.out.size))
              replace HZ1 := hide (HZ1.out.later hb)
              replace HL1 := hide (HL1.out.later hb)
              clear hb hxb HOW HB14
              generalize w14 = w20 at *
              go_wp2_with fail
              go_loopw [13, 17, 18, 19] (fun l kk _ _ wr => ∃ (k : Nat) (xs : List Int) (zz : Option Addr) (zc' : Nat), k ≤ 6 ∧ kk = .int .i64 k ∧ l = .slice zz xs.length zc' ∧ xs.length ≤ 1048576 ∧ Hid (∀ x ∈ xs, (Lit.int .i64 x).wf = true) ∧ Hid (IntsAt wr zz xs) ∧ Hid (Below w20.heap.size w20 wr)) (fun _ kk _ _ _ => 6 - (intOf kk).toNat)
              case atStart => exact ⟨0, xs, zz, zc', by omega, rfl, by rw [hxl], by omega, HXW, HIL, Below.refl _ _⟩
              case round =>
                clear hxl HXW HIL
                obtain ⟨k, xs, zz, zc', hk, rfl, rfl, hxl, HXW, HIL, HBR⟩ := hrel
                rename World => w21
                have hb := HBR.out
                replace n0 := cell_later' hb n0
                replace n1 := cell_later' hb n1
                replace s0 := cell_later' hb s0
                replace s1 := cell_later' hb s1
                replace s2 := cell_later' hb s2
                replace t0 := cell_later' hb t0
                replace t1 := cell_later' hb t1
                replace t2 := cell_later' hb t2
                replace p0 := cell_later' hb p0
                replace p1 := cell_later' hb p1
                replace p2 := cell_later' hb p2
                replace p3 := cell_later' hb p3
                replace hltn0 := cell_lt n0
                replace hlts0 := cell_lt s0
                replace hltt0 := cell_lt t0
                replace hltp0 := cell_lt p0
                replace HP := hide (HP.out.later hb)
                replace HJ := hide (HJ.out.later hb)
                replace HBW := hide (HBW.out.trans (hb.mono HBW.out.size))
                replace HZ1 := hide (HZ1.out.later hb)
                replace HL1 := hide (HL1.out.later hb)
                clear hb
                by_cases hlt : k < 6
                · have hki : (k : Int) < 6 := by omega
                  have hx3 : IntKind.i64.wrap (3 * (k : Int)) = ((3 * k : Nat) : Int) := by rw [IntKind.wrap_i64]; omega
                  have HBR2 := hide (HBR.out)
                  go_wp2_with fail
                  refine (wWhole_any z zc more (3 * k) _ HB'.out hml (by omega) (HZ.out.later HBW.out)).mono ?_
                  rintro e w22 ⟨rfl, hw22⟩
                  subst hw22
                  have hF := wholeP_bd HB'.out (3 * k)
                  generalize wholeP more (3 * k) = F at *
                  as_aux_lemma =>
                    go_wp2_with fail
                    refine (implDrive_any pa ja zz N pcap jcap zc' xs q at1 wy F _ HWA.out (wf_int (by omega) (by omega)) HXW.out (by omega) HS9.out (by omega) HM9.out hxl HP.out HJ.out HIL.out).mono ?_
                    rintro e w23 ⟨r, hDA, rfl, hb23⟩
                    have HDQ := hide (HDR.out xs F r hDA)
                    replace n0 := cell_later' hb23 n0
                    replace n1 := cell_later' hb23 n1
                    replace s0 := cell_later' hb23 s0
                    replace s1 := cell_later' hb23 s1
                    replace s2 := cell_later' hb23 s2
                    replace t0 := cell_later' hb23 t0
                    replace t1 := cell_later' hb23 t1
                    replace t2 := cell_later' hb23 t2
                    replace p0 := cell_later' hb23 p0
                    replace p1 := cell_later' hb23 p1
                    replace p2 := cell_later' hb23 p2
                    replace p3 := cell_later' hb23 p3
                    replace hltn0 := cell_lt n0
                    replace hlts0 := cell_lt s0
                    replace hltt0 := cell_lt t0
                    replace hltp0 := cell_lt p0
                    replace HP := hide (HP.out.later hb23)
                    replace HJ := hide (HJ.out.later hb23)
                    replace HBW := hide (HBW.out.trans (hb23.mono HBW.out.size))
                    replace HZ1 := hide (HZ1.out.later hb23)
                    replace HL1 := hide (HL1.out.later hb23)
                    replace HBR2 := hide (HBR2.out.trans (hb23.mono HBR2.out.size))
                    clear hb23 hDA
                    go_upto_region 42 with fail
                    have hAl := (Below.refl w23.heap.size w23).alloc (Nat.le_refl _) (.cells #[.int .i64 r.code, .int .i64 r.far, .int .i64 r.joint, .int .i64 r.q, .int .i64 r.at', .int .i64 r.way] 49)
                    have d0 := new_cell w23 #[.int .i64 r.code, .int .i64 r.far, .int .i64 r.joint, .int .i64 r.q, .int .i64 r.at', .int .i64 r.way] 49 0 _ rfl
                    have d1 := new_cell w23 #[.int .i64 r.code, .int .i64 r.far, .int .i64 r.joint, .int .i64 r.q, .int .i64 r.at', .int .i64 r.way] 49 1 _ rfl
                    have d2 := new_cell w23 #[.int .i64 r.code, .int .i64 r.far, .int .i64 r.joint, .int .i64 r.q, .int .i64 r.at', .int .i64 r.way] 49 2 _ rfl
                    have d3 := new_cell w23 #[.int .i64 r.code, .int .i64 r.far, .int .i64 r.joint, .int .i64 r.q, .int .i64 r.at', .int .i64 r.way] 49 3 _ rfl
                    have d4 := new_cell w23 #[.int .i64 r.code, .int .i64 r.far, .int .i64 r.joint, .int .i64 r.q, .int .i64 r.at', .int .i64 r.way] 49 4 _ rfl
                    have d5 := new_cell w23 #[.int .i64 r.code, .int .i64 r.far, .int .i64 r.joint, .int .i64 r.q, .int .i64 r.at', .int .i64 r.way] 49 5 _ rfl
                    replace n0 := cell_later' hAl n0
                    replace n1 := cell_later' hAl n1
                    replace s0 := cell_later' hAl s0
                    replace s1 := cell_later' hAl s1
                    replace s2 := cell_later' hAl s2
                    replace t0 := cell_later' hAl t0
                    replace t1 := cell_later' hAl t1
                    replace t2 := cell_later' hAl t2
                    replace p0 := cell_later' hAl p0
                    replace p1 := cell_later' hAl p1
                    replace p2 := cell_later' hAl p2
                    replace p3 := cell_later' hAl p3
                    replace hltn0 := cell_lt n0
                    replace hlts0 := cell_lt s0
                    replace hltt0 := cell_lt t0
                    replace hltp0 := cell_lt p0
                    replace HP := hide (HP.out.later hAl)
                    replace HJ := hide (HJ.out.later hAl)
                    replace HBW := hide (HBW.out.trans (hAl.mono HBW.out.size))
                    replace HZ1 := hide (HZ1.out.later hAl)
                    replace HL1 := hide (HL1.out.later hAl)
                    replace HBR2 := hide (HBR2.out.trans (hAl.mono HBR2.out.size))
                    clear hAl
                    generalize w23.alloc (.cells #[.int .i64 r.code, .int .i64 r.far, .int .i64 r.joint, .int .i64 r.q, .int .i64 r.at', .int .i64 r.way] 49) = w24 at *
                    generalize w23.heap.size = bd at *
                    have hltd0 := cell_lt d0
                    go_cut [229] from 183 to 243 (fun s229 wz => s229 = .bool false ∧ w24 = wz)
                    case first =>
                      by_cases hc : r.code = 0
                      · by_cases g1 : r.q = q'
                        · by_cases g2 : r.at' = at2
                          · by_cases g3 : r.way = wy'
                            · have hh := HDQ.out hc g1 g2 g3
                              exact absurd hh.1 (by simp)
                            · have hf : (r.way == wy') = false := by rw [beq_eq_false_iff_ne]; exact g3
                              rw [hc] at d0
                              rw [g1] at d3
                              rw [g2] at d4
                              clear hc g1 g2 g3
                              go_wp2_with fail
                              go_meet
                              case rel => exact ⟨rfl, rfl⟩
                          · have hf : (r.at' == at2) = false := by rw [beq_eq_false_iff_ne]; exact g2
                            rw [hc] at d0
                            rw [g1] at d3
                            clear hc g1 g2
                            go_wp2_with fail
                            go_meet
                            case rel => exact ⟨rfl, rfl⟩
                        · have hf : (r.q == q') = false := by rw [beq_eq_false_iff_ne]; exact g1
                          rw [hc] at d0
                          clear hc g1
                          go_wp2_with fail
                          go_meet
                          case rel => exact ⟨rfl, rfl⟩
                      · have hf : (r.code == 0) = false := by rw [beq_eq_false_iff_ne]; exact hc
                        clear hc
                        go_wp2_with fail
                        go_meet
                        case rel => exact ⟨rfl, rfl⟩
                    case rest =>
                      obtain ⟨rfl, hw⟩ := hcut
                      subst hw
                      have hu0 : IntKind.u8.wrap (byteP more k) = byteP more k := by have := byteP_bd HB'.out k; rw [IntKind.wrap_u8]; omega
                      have hu1 : IntKind.u8.wrap (k : Int) = (k : Int) := by rw [IntKind.wrap_u8]; omega
                      have hu2 : IntKind.u8.wrap (byteP more (k + 1)) = byteP more (k + 1) := by have := byteP_bd HB'.out (k + 1); rw [IntKind.wrap_u8]; omega
                      have hk1 : IntKind.i64.wrap ((k : Int) + 1) = ((k + 1 : Nat) : Int) := by rw [IntKind.wrap_i64]; omega
                      have HE1 := hide (show (k : Int) + 1 = ((k + 1 : Nat) : Int) by omega)
                      have HWX := hide (show ∀ (W : World) (x : Int) (i : Nat), x = (i : Int) → i ≤ 1000 → BytesAt W z more → Calls Tryz.prog 16 #[.slice z more.length zc, .int .i64 x] W fun e w' => e = .returned (.int .i64 (byteP more i)) ∧ W = w' from fun W x i hx hi hz => by
                        rw [hx]
                        exact wByte_any z zc more i W HB'.out hml hi hz)
                      have HBY := hide (show Bys [byteP more k, (k : Int), byteP more (k + 1)] from fun x hx => by
                        have h1 := byteP_bd HB'.out k
                        have h2 := byteP_bd HB'.out (k + 1)
                        simp only [List.mem_cons, List.not_mem_nil, or_false] at hx
                        rcases hx with rfl | rfl | rfl <;> omega)
                      have HN0 : Hid (NS w24 w24 bn (.slice pa N.pcs.length pcap) (.slice ja N.jts.length jcap)) := ⟨⟨n0, n1⟩, Below.refl _ _⟩
                      have HK1 := hide (keepNS ((Below.refl w24.heap.size w24).drew) HN0.out)
                      have HK2 := hide (keepNS (((Below.refl w24.heap.size w24).alloc (Nat.le_refl _) (.cells #[.int .u8 (byteP more k), .int .u8 (k : Int), .int .u8 (byteP more (k + 1))] 5)).drew) HN0.out)
                      have HZS := hide (fun wx (h : NS w24 wx bn (.slice pa N.pcs.length pcap) (.slice ja N.jts.length jcap)) => HZ.out.later (HBW.out.trans (h.2.out.mono HBW.out.size)))
                      have HJS := hide (fun wx (h : NS w24 wx bn (.slice pa N.pcs.length pcap) (.slice ja N.jts.length jcap)) => HJ.out.later h.2.out)
                      have HYB := hide ((bytes3 w24 (byteP more k) k (byteP more (k + 1))).later ((Below.refl _ _).drew))
                      have HXN := hide (show ∀ x ∈ liesL N [byteP more k, (k : Int), byteP more (k + 1)], (Lit.int .i64 x).wf = true from fun x hx => by have := liesL_bd N [byteP more k, (k : Int), byteP more (k + 1)] x hx; exact wf_int (by omega) (by omega))
                      have hxn : (liesL N [byteP more k, (k : Int), byteP more (k + 1)]).length ≤ 1048576 := by rw [liesL_len]; omega
                      clear d0 d1 d2 d3 d4 d5 s0 s1 s2 t0 t1 t2 p0 p1 p2 p3
                      go_upto_region 44 with fail
                      go_region_held3 (fun wx => NS w24 wx bn (.slice pa N.pcs.length pcap) (.slice ja N.jts.length jcap))
                        (first
                          | (with_reducible exact HK1.out)
                          | (with_reducible exact HK2.out)
                          | (with_reducible exact HGL.out))
                        (first
                          | (go_at_call 16; refine (HWX.out _ _ _ (by first | exact HE1.out | exact rfl) (by omega) (HZS.out _ (by assumption))).mono ?_; rintro e wB ⟨rfl, hwB⟩; subst hwB)
                          | (go_at_call 9; refine (lies_any pa ja (some ⟨w24.heap.size, 0, none⟩) N pcap jcap 3 [byteP more k, (k : Int), byteP more (k + 1)] _ HNB.out HBY.out (by simp) (HJS.out _ (by assumption)) HYB.out).mono ?_; rintro e w25 ⟨v, rfl, how, hb25⟩; obtain ⟨zn, zm, rfl, hIN⟩ := ints_of_owns how; have HIN := hide hIN; have HGL : Hid (NS w24 w25 bn (.slice pa N.pcs.length pcap) (.slice ja N.jts.length jcap)) := keepNS hb25 (by assumption); clear hIN how hb25))
                      all_goals
                        have HBN := hide (HBR2.out.trans (HGL.out.2.out.mono HBR2.out.size))
                        go_wp2_with fail
                        go_roundw
                        case rel => exact ⟨k + 1, _, zn, zm, by omega, by go_num, rfl, hxn, HXN, HIN, HBN⟩
                        case measure => simp [intOf]; omega
                · have hke : k = 6 := by omega
                  subst hke
                  go_wp2_with fail
                  go_ret
                  exact ⟨rfl, HBW.out⟩
            | true =>
              have HXB := hide (show ∀ x ∈ xs, 0 ≤ x ∧ x ≤ 40 from fun x hx => by have := hxb x hx; omega)
              clear hxb HIL
              have hb := HB14.out
              have p0' := cell_later' hb p0
              have p3' := cell_later' hb p3
              have hltp' := cell_lt p0'
              clear hb
              go_wp2_with fail
              clear p0' p3'
              go_loopw [15, 138] (fun _ i wr => ∃ (k : Nat) (xs : List Int), k ≤ ls.length ∧ i = .int .i64 k ∧ xs.length = N.jts.length ∧ Hid (∀ x ∈ xs, 0 ≤ x ∧ x ≤ 40) ∧ Hid (wr.ownsRow w13.heap.size 3 1 (.slice zz N.jts.length zc') N.jts.length (xs.map (Value.int .i64))) ∧ Hid (Below w13.heap.size w13 wr)) (fun _ i _ => ls.length - (intOf i).toNat)
              case atStart => exact ⟨0, xs, Nat.zero_le _, rfl, hxl, HXB, HOW, HB14⟩
              case round =>
                clear hxl HXB HOW HB14
                obtain ⟨k, xs, hk, rfl, hxl, HXB, HOW, HBR⟩ := hrel
                rename World => w15
                have hb := HBR.out
                by_cases hlt : k < ls.length
                · have hki : (k : Int) < (ls.length : Int) := by omega
                  obtain ⟨b1, o1, rfl, e0, e1⟩ := (HL1.out.later hb) k hlt
                  obtain ⟨m0, m1, m2, m3⟩ := HLB.out ls[k] (List.getElem_mem hlt)
                  generalize ls[k].1 = jj at *
                  generalize ls[k].2 = ll at *
                  obtain ⟨j, rfl⟩ := Int.eq_ofNat_of_zero_le m0
                  have hjn : j < N.jts.length := by omega
                  have hjx : j < xs.length := by omega
                  obtain ⟨g, rfl, hg1, hg2, hgc, hgf, hgs⟩ := ints_set HOW.out hxl hjn
                  have HS2 := hide (hgs ll)
                  have HX2 := hide (show ∀ x ∈ xs.set j ll, 0 ≤ x ∧ x ≤ 40 from fun x hx => by
                    rcases List.mem_or_eq_of_mem_set hx with h | rfl
                    · exact HXB.out x h
                    · omega)
                  have hx2 : (xs.set j ll).length = N.jts.length := by rw [List.length_set]; exact hxl
                  have HB2 := hide (HBR.out.setCell (p := ⟨g, j, none⟩) hg1 (.int .i64 ll))
                  have HBa := hide (HB2.out.alloc (by have := HBR.out.size; simp [World.setCell]; omega) (.cells #[.int .i64 (j : Int), .int .i64 ll] 39))
                  have hlt1 := cell_lt e0
                  generalize xs[j] = xj at *
                  clear hgs hb m0 m1
                  go_wp2_with fail
                  go_roundw
                  case rel => exact ⟨k + 1, xs.set j ll, by omega, by go_num, hx2, HX2, HS2.out.alloc _, HBa⟩
                  case measure => simp [intOf]; omega
                · have hke : k = ls.length := by omega
                  subst hke
                  replace n0 := cell_later' hb n0
                  replace n1 := cell_later' hb n1
                  replace s0 := cell_later' hb s0
                  replace s1 := cell_later' hb s1
                  replace s2 := cell_later' hb s2
                  replace t0 := cell_later' hb t0
                  replace t1 := cell_later' hb t1
                  replace t2 := cell_later' hb t2
                  replace p0 := cell_later' hb p0
                  replace p1 := cell_later' hb p1
                  replace p2 := cell_later' hb p2
                  replace p3 := cell_later' hb p3
                  replace hltn0 := cell_lt n0
                  replace hlts0 := cell_lt s0
                  replace hltt0 := cell_lt t0
                  replace hltp0 := cell_lt p0
                  replace HP := hide (HP.out.later hb)
                  replace HJ := hide (HJ.out.later hb)
                  replace HBW := hide (HBW.out.trans (hb.mono HBW.out.size))
                  replace HZ1 := hide (HZ1.out.later hb)
                  replace HL1 := hide (HL1.out.later hb)
                  obtain ⟨_, _, hv, hIL⟩ := ints_of_owns (show w15.ownsRow w13.heap.size 3 1 (.slice zz xs.length zc') xs.length (xs.map (Value.int .i64)) by rw [hxl]; exact HOW.out)
                  obtain ⟨rfl, rfl⟩ : zz = _ ∧ zc' = _ := by simpa using hv
                  have HIL := hide hIL
                  have HXW := hide (show ∀ x ∈ xs, (Lit.int .i64 x).wf = true from fun x hx => by have := HXB.out x hx; exact wf_int (by omega) (by omega))
                  clear hb hIL hv HOW HXB HBR
                  go_wp2_with fail
                  refine (implStretch_any pa ja z1 y1 N pcap jcap c1 d1 true fr ss ls.length q at1 wy _ HWA.out (by omega) HS9.out (by omega) HM9.out (by omega) HP.out HJ.out HZ1.out).mono ?_
                  rintro e w16 ⟨v, rfl, how16, hb16⟩
                  have HCS := hide (HSX.out (by trivial))
                  generalize hpe : stretchP N true fr ss q at1 wy = ps at how16 HCS
                  have HPE := hide hpe
                  obtain ⟨zp, cp, rfl, hPA⟩ := parts_row how16
                  have HPA := hide hPA
                  replace n0 := cell_later' hb16 n0
                  replace n1 := cell_later' hb16 n1
                  replace s0 := cell_later' hb16 s0
                  replace s1 := cell_later' hb16 s1
                  replace s2 := cell_later' hb16 s2
                  replace t0 := cell_later' hb16 t0
                  replace t1 := cell_later' hb16 t1
                  replace t2 := cell_later' hb16 t2
                  replace p0 := cell_later' hb16 p0
                  replace p1 := cell_later' hb16 p1
                  replace p2 := cell_later' hb16 p2
                  replace p3 := cell_later' hb16 p3
                  replace hltn0 := cell_lt n0
                  replace hlts0 := cell_lt s0
                  replace hltt0 := cell_lt t0
                  replace hltp0 := cell_lt p0
                  replace HP := hide (HP.out.later hb16)
                  replace HJ := hide (HJ.out.later hb16)
                  replace HBW := hide (HBW.out.trans (hb16.mono HBW.out.size))
                  replace HZ1 := hide (HZ1.out.later hb16)
                  replace HL1 := hide (HL1.out.later hb16)
                  replace HIL := hide (HIL.out.later hb16)
                  clear hb16 how16 hPA hpe
                  go_upto_region 33 with fail
                  have HPX : Hid (ShS w16 w16 bn bs bp (.slice pa N.pcs.length pcap) (.slice ja N.jts.length jcap) q at1 wy (.bool true) (.int .i64 fr) (.slice z1 ss.length c1) (.slice y1 ls.length d1)) := ⟨⟨⟨n0, n1⟩, ⟨s0, s1, s2⟩, p0, p1, p2, p3⟩, Below.refl _ _⟩
                  have h16 : Below w16.heap.size w16 w16.drew := (Below.refl _ _).drew
                  go_cut [182] from 20 to 243 (fun s182 wz => s182 = .bool false ∧ Hid (Below w16.heap.size w16 wz))
                  case first =>
                    clear n0 n1 s0 s1 s2 t0 t1 t2 p0 p1 p2 p3
                    clear HIL HXW HLB HDR HL1 HNB HBW hltn0 hlts0 hltt0 hltp0 HB HB' HX HZ
                    have hS0 : ShS w16 w16.drew bn bs bp (.slice pa N.pcs.length pcap) (.slice ja N.jts.length jcap) q at1 wy (.bool true) (.int .i64 fr) (.slice z1 ss.length c1) (.slice y1 ls.length d1) := keepSh h16 HPX.out
                    have hps19 : ps.length ≤ 19 := by
                      rcases HCS.out with ⟨h1, _⟩ | ⟨_, h2, _⟩
                      · rw [h1]; simp
                      · exact h2
                    refine wp_region_held_drew (S := fun wx => ShS w16 wx bn bs bp (.slice pa N.pcs.length pcap) (.slice ja N.jts.length jcap) q at1 wy (.bool true) (.int .i64 fr) (.slice z1 ss.length c1) (.slice y1 ls.length d1)) (by kernel_rfl) hS0 (fun _ => ?_)
                    refine wpAnyH_take (i := 0) (v := ?_) rfl (by kernel_rfl) (by kernel_rfl) (by kernel_rfl) (fun _ _ _ h => h) (Or.inl ⟨by kernel_rfl, ?_⟩) hS0 ?_
                    rotate_left
                    · (intro w hSw; (try dsimp only at hSw); go_simp)
                      all_goals with_reducible rfl
                    try simp only [Act.put, List.setIfInBounds_toArray]
                    refine wpAnyH_take (i := 1) (v := ?_) rfl (by kernel_rfl) (by kernel_rfl) (by kernel_rfl) (fun _ _ _ h => h) (Or.inl ⟨by kernel_rfl, ?_⟩) hS0 ?_
                    rotate_left
                    · (intro w hSw; (try dsimp only at hSw); go_simp)
                      all_goals with_reducible rfl
                    try simp only [Act.put]
                    refine wpAnyH_take (i := 2) (v := ?_) rfl (by kernel_rfl) (by kernel_rfl) (by kernel_rfl) (fun _ _ _ h => h) (Or.inl ⟨by kernel_rfl, ?_⟩) hS0 ?_
                    rotate_left
                    · (intro w hSw; (try dsimp only at hSw); go_simp)
                      all_goals with_reducible rfl
                    try simp only [Act.put]
                    refine wpAnyH_take (i := 3) (v := ?_) rfl (by kernel_rfl) (by kernel_rfl) (by kernel_rfl) (fun _ _ _ h => h) (Or.inl ⟨by kernel_rfl, ?_⟩) hS0 ?_
                    rotate_left
                    · (intro w hSw; (try dsimp only at hSw); go_simp)
                      all_goals with_reducible rfl
                    try simp only [Act.put]
                    refine wpAnyH_one (i := 4) (by kernel_rfl) rfl (fun K hK => ?_)
                    go_simp
                    go_at_call 12
                    refine (specStretch_any pa ja z1 y1 N pcap jcap c1 d1 true fr ss _ q at1 wy _ (by omega) HS9.out (by omega) HM9.out (by omega) (HP.out.later h16) (HJ.out.later h16) (HZ1.out.later h16)).mono ?_
                    rintro e w17 ⟨v, rfl, how17, hb17⟩
                    rw [HPE.out] at how17
                    obtain ⟨z17, c17, rfl, hP17⟩ := parts_row how17
                    have hS1 : ShS w16 w17 bn bs bp (.slice pa N.pcs.length pcap) (.slice ja N.jts.length jcap) q at1 wy (.bool true) (.int .i64 fr) (.slice z1 ss.length c1) (.slice y1 ls.length d1) := keepSh hb17 hS0
                    try go_simp
                    refine hK.out _ _ hS1 (fun _ => ?_)
                    clear hK K
                    try simp only [Act.put, List.setIfInBounds_toArray]
                    refine wpAnyH_one (i := 5) (by kernel_rfl) rfl (fun K hK => ?_)
                    go_simp
                    go_at_call 11
                    refine (wParts_same zp _ _ _ _ _ (by omega) (HPA.out.later (chn h16 hb17)) hP17).mono ?_
                    rintro e w18 ⟨rfl, hb18⟩
                    have hS2 : ShS w16 w18 bn bs bp (.slice pa N.pcs.length pcap) (.slice ja N.jts.length jcap) q at1 wy (.bool true) (.int .i64 fr) (.slice z1 ss.length c1) (.slice y1 ls.length d1) := keepSh hb18 hS1
                    try go_simp
                    refine hK.out _ _ hS2 (fun _ => ?_)
                    clear hK K
                    try simp only [Act.put, List.setIfInBounds_toArray]
                    refine wpAnyH_take (i := 6) (v := ?_) rfl (by kernel_rfl) (by kernel_rfl) (by kernel_rfl) (fun _ _ _ h => h) (Or.inl ⟨by kernel_rfl, ?_⟩) hS2 ?_
                    rotate_left
                    · (intro w hSw; (try dsimp only at hSw); go_simp)
                      all_goals with_reducible rfl
                    try simp only [Act.put, List.setIfInBounds_toArray]
                    refine wpAnyH_take (i := 7) (v := ?_) rfl (by kernel_rfl) (by kernel_rfl) (by kernel_rfl) (fun _ _ _ h => h) (Or.inl ⟨by kernel_rfl, ?_⟩) hS2 ?_
                    rotate_left
                    · (intro w hSw; (try dsimp only at hSw); go_simp)
                      all_goals with_reducible rfl
                    try simp only [Act.put]
                    refine wpAnyH_take (i := 8) (v := ?_) rfl (by kernel_rfl) (by kernel_rfl) (by kernel_rfl) (fun _ _ _ h => h) (Or.inl ⟨by kernel_rfl, ?_⟩) hS2 ?_
                    rotate_left
                    · (intro w hSw; (try dsimp only at hSw); go_simp)
                      all_goals with_reducible rfl
                    try simp only [Act.put]
                    refine wpAnyH_take (i := 9) (v := ?_) rfl (by kernel_rfl) (by kernel_rfl) (by kernel_rfl) (fun _ _ _ h => h) (Or.inl ⟨by kernel_rfl, ?_⟩) hS2 ?_
                    rotate_left
                    · (intro w hSw; (try dsimp only at hSw); go_simp)
                      all_goals with_reducible rfl
                    try simp only [Act.put]
                    clear hS0 hS1 hps19 how17 hP17 HJ HZ1 HPX
                    rcases HCS.out with ⟨h1, h2⟩ | ⟨h1, h2, h3⟩
                    · skip
                      subst h1
                      subst h2
                      refine wpAnyH_take (i := 10) (v := ?_) rfl (by kernel_rfl) (by kernel_rfl) (by kernel_rfl) (fun _ _ _ h => h) (Or.inl ⟨by kernel_rfl, ?_⟩) hS2 ?_
                      rotate_left
                      · (intro w hSw; (try dsimp only at hSw); go_simp)
                        all_goals with_reducible rfl
                      try simp only [Act.put]
                      refine wpAnyH_take (i := 11) (v := ?_) rfl (by kernel_rfl) (by kernel_rfl) (by kernel_rfl) (fun _ _ _ h => h) (Or.inl ⟨by kernel_rfl, ?_⟩) hS2 ?_
                      rotate_left
                      · (intro w hSw; (try dsimp only at hSw); go_simp)
                        all_goals with_reducible rfl
                      try simp only [Act.put]
                      refine wpAnyH_take (i := 12) (v := undef) rfl (by kernel_rfl) (by kernel_rfl) (by kernel_rfl) (fun _ _ _ h => h) (Or.inr ⟨by kernel_rfl, rfl⟩) hS2 ?_
                      try simp only [Act.put]
                      refine wpAnyH_take (i := 13) (v := undef) rfl (by kernel_rfl) (by kernel_rfl) (by kernel_rfl) (fun _ _ _ h => h) (Or.inr ⟨by kernel_rfl, rfl⟩) hS2 ?_
                      try simp only [Act.put]
                      refine wpAnyH_take (i := 14) (v := undef) rfl (by kernel_rfl) (by kernel_rfl) (by kernel_rfl) (fun _ _ _ h => h) (Or.inr ⟨by kernel_rfl, rfl⟩) hS2 ?_
                      try simp only [Act.put]
                      refine wpAnyH_take (i := 15) (v := undef) rfl (by kernel_rfl) (by kernel_rfl) (by kernel_rfl) (fun _ _ _ h => h) (Or.inr ⟨by kernel_rfl, rfl⟩) hS2 ?_
                      try simp only [Act.put]
                      refine wpAnyH_take (i := 16) (v := undef) rfl (by kernel_rfl) (by kernel_rfl) (by kernel_rfl) (fun _ _ _ h => h) (Or.inr ⟨by kernel_rfl, rfl⟩) hS2 ?_
                      try simp only [Act.put]
                      refine wpAnyH_take (i := 17) (v := ?_) rfl (by kernel_rfl) (by kernel_rfl) (by kernel_rfl) (fun _ _ _ h => h) (Or.inl ⟨by kernel_rfl, ?_⟩) hS2 ?_
                      rotate_left
                      · (intro w hSw; (try dsimp only at hSw); go_simp)
                        all_goals with_reducible rfl
                      try simp only [Act.put]
                      refine wpAnyH_take (i := 18) (v := ?_) rfl (by kernel_rfl) (by kernel_rfl) (by kernel_rfl) (fun _ _ _ h => h) (Or.inl ⟨by kernel_rfl, ?_⟩) hS2 ?_
                      rotate_left
                      · (intro w hSw; (try dsimp only at hSw); go_simp)
                        all_goals with_reducible rfl
                      try simp only [Act.put]
                      refine wpAnyH_take (i := 19) (v := ?_) rfl (by kernel_rfl) (by kernel_rfl) (by kernel_rfl) (fun _ _ _ h => h) (Or.inl ⟨by kernel_rfl, ?_⟩) hS2 ?_
                      rotate_left
                      · (intro w hSw; (try dsimp only at hSw); go_simp)
                        all_goals with_reducible rfl
                      try simp only [Act.put]
                      refine wpAnyH_take (i := 20) (v := ?_) rfl (by kernel_rfl) (by kernel_rfl) (by kernel_rfl) (fun _ _ _ h => h) (Or.inl ⟨by kernel_rfl, ?_⟩) hS2 ?_
                      rotate_left
                      · (intro w hSw; (try dsimp only at hSw); go_simp)
                        all_goals with_reducible rfl
                      try simp only [Act.put]
                      refine wpAnyH_take (i := 21) (v := ?_) rfl (by kernel_rfl) (by kernel_rfl) (by kernel_rfl) (fun _ _ _ h => h) (Or.inl ⟨by kernel_rfl, ?_⟩) hS2 ?_
                      rotate_left
                      · (intro w hSw; (try dsimp only at hSw); go_simp)
                        all_goals with_reducible rfl
                      try simp only [Act.put]
                      refine wpAnyH_take (i := 22) (v := ?_) rfl (by kernel_rfl) (by kernel_rfl) (by kernel_rfl) (fun _ _ _ h => h) (Or.inl ⟨by kernel_rfl, ?_⟩) hS2 ?_
                      rotate_left
                      · (intro w hSw; (try dsimp only at hSw); go_simp)
                        all_goals with_reducible rfl
                      try simp only [Act.put]
                      refine wpAnyH_take (i := 23) (v := ?_) rfl (by kernel_rfl) (by kernel_rfl) (by kernel_rfl) (fun _ _ _ h => h) (Or.inl ⟨by kernel_rfl, ?_⟩) hS2 ?_
                      rotate_left
                      · (intro w hSw; (try dsimp only at hSw); go_simp)
                        all_goals with_reducible rfl
                      try simp only [Act.put]
                      refine wpAnyH_take (i := 24) (v := ?_) rfl (by kernel_rfl) (by kernel_rfl) (by kernel_rfl) (fun _ _ _ h => h) (Or.inl ⟨by kernel_rfl, ?_⟩) hS2 ?_
                      rotate_left
                      · (intro w hSw; (try dsimp only at hSw); go_simp)
                        all_goals with_reducible rfl
                      try simp only [Act.put]
                      refine wpAnyH_take (i := 25) (v := ?_) rfl (by kernel_rfl) (by kernel_rfl) (by kernel_rfl) (fun _ _ _ h => h) (Or.inl ⟨by kernel_rfl, ?_⟩) hS2 ?_
                      rotate_left
                      · (intro w hSw; (try dsimp only at hSw); go_simp)
                        all_goals with_reducible rfl
                      try simp only [Act.put]
                      refine wpAnyH_take (i := 26) (v := ?_) rfl (by kernel_rfl) (by kernel_rfl) (by kernel_rfl) (fun _ _ _ h => h) (Or.inl ⟨by kernel_rfl, ?_⟩) hS2 ?_
                      rotate_left
                      · (intro w hSw; (try dsimp only at hSw); go_simp)
                        all_goals with_reducible rfl
                      try simp only [Act.put]
                      refine wpAnyH_take (i := 27) (v := ?_) rfl (by kernel_rfl) (by kernel_rfl) (by kernel_rfl) (fun _ _ _ h => h) (Or.inl ⟨by kernel_rfl, ?_⟩) hS2 ?_
                      rotate_left
                      · (intro w hSw; (try dsimp only at hSw); go_simp)
                        all_goals with_reducible rfl
                      try simp only [Act.put]
                      refine wpAnyH_take (i := 28) (v := ?_) rfl (by kernel_rfl) (by kernel_rfl) (by kernel_rfl) (fun _ _ _ h => h) (Or.inl ⟨by kernel_rfl, ?_⟩) hS2 ?_
                      rotate_left
                      · (intro w hSw; (try dsimp only at hSw); go_simp)
                        all_goals with_reducible rfl
                      try simp only [Act.put]
                      refine wpAnyH_take (i := 29) (v := ?_) rfl (by kernel_rfl) (by kernel_rfl) (by kernel_rfl) (fun _ _ _ h => h) (Or.inl ⟨by kernel_rfl, ?_⟩) hS2 ?_
                      rotate_left
                      · (intro w hSw; (try dsimp only at hSw); go_simp)
                        all_goals with_reducible rfl
                      try simp only [Act.put]
                      refine wpAnyH_done (by kernel_rfl) ?_ _
                      have HBX := hide hS2.2.out
                      clear hS2
                      go_wp2_with fail
                      go_meet
                      case rel => exact ⟨rfl, HBX⟩
                    · skip
                      have hp1 : (0 : Int) < (ps.length : Int) := by omega
                      have hp2 : ((ps.length : Int) == 0) = false := by rw [beq_eq_false_iff_ne]; omega
                      have hp3 : (ps.length == 0) = false := by rw [beq_eq_false_iff_ne]; omega
                      refine wpAnyH_take (i := 10) (v := ?_) rfl (by kernel_rfl) (by kernel_rfl) (by kernel_rfl) (fun _ _ _ h => h) (Or.inl ⟨by kernel_rfl, ?_⟩) hS2 ?_
                      rotate_left
                      · (intro w hSw; (try dsimp only at hSw); go_simp)
                        all_goals with_reducible rfl
                      try simp only [Act.put]
                      refine wpAnyH_take (i := 11) (v := ?_) rfl (by kernel_rfl) (by kernel_rfl) (by kernel_rfl) (fun _ _ _ h => h) (Or.inl ⟨by kernel_rfl, ?_⟩) hS2 ?_
                      rotate_left
                      · (intro w hSw; (try dsimp only at hSw); go_simp)
                        all_goals with_reducible rfl
                      try simp only [Act.put]
                      refine wpAnyH_take (i := 12) (v := ?_) rfl (by kernel_rfl) (by kernel_rfl) (by kernel_rfl) (fun _ _ _ h => h) (Or.inl ⟨by kernel_rfl, ?_⟩) hS2 ?_
                      rotate_left
                      · (intro w hSw; (try dsimp only at hSw); go_simp)
                        all_goals with_reducible rfl
                      try simp only [Act.put]
                      refine wpAnyH_take (i := 14) (v := ?_) rfl (by kernel_rfl) (by kernel_rfl) (by kernel_rfl) (fun _ _ _ h => h) (Or.inl ⟨by kernel_rfl, ?_⟩) hS2 ?_
                      rotate_left
                      · (intro w hSw; (try dsimp only at hSw); go_simp)
                        all_goals with_reducible rfl
                      try simp only [Act.put]
                      refine wpAnyH_take (i := 15) (v := ?_) rfl (by kernel_rfl) (by kernel_rfl) (by kernel_rfl) (fun _ _ _ h => h) (Or.inl ⟨by kernel_rfl, ?_⟩) hS2 ?_
                      rotate_left
                      · (intro w hSw; (try dsimp only at hSw); go_simp)
                        all_goals with_reducible rfl
                      try simp only [Act.put]
                      refine wpAnyH_one (i := 13) (by kernel_rfl) rfl (fun K hK => ?_)
                      go_simp
                      go_at_call 13
                      refine (implPartsLen_any zp ps _ _ (by omega) (HPA.out.later (chn (chn h16 hb17) hb18))).mono ?_
                      rintro e w19 ⟨rfl, hb19⟩
                      rw [h3]
                      have hS3 : ShS w16 w19 bn bs bp (.slice pa N.pcs.length pcap) (.slice ja N.jts.length jcap) q at1 wy (.bool true) (.int .i64 fr) (.slice z1 ss.length c1) (.slice y1 ls.length d1) := keepSh hb19 hS2
                      try go_simp
                      refine hK.out _ _ hS3 (fun _ => ?_)
                      clear hK K
                      try simp only [Act.put, List.setIfInBounds_toArray]
                      refine wpAnyH_take (i := 16) (v := ?_) rfl (by kernel_rfl) (by kernel_rfl) (by kernel_rfl) (fun _ _ _ h => h) (Or.inl ⟨by kernel_rfl, ?_⟩) hS3 ?_
                      rotate_left
                      · (intro w hSw; (try dsimp only at hSw); go_simp)
                        all_goals with_reducible rfl
                      try simp only [Act.put, List.setIfInBounds_toArray]
                      refine wpAnyH_take (i := 17) (v := ?_) rfl (by kernel_rfl) (by kernel_rfl) (by kernel_rfl) (fun _ _ _ h => h) (Or.inl ⟨by kernel_rfl, ?_⟩) hS3 ?_
                      rotate_left
                      · (intro w hSw; (try dsimp only at hSw); go_simp)
                        all_goals with_reducible rfl
                      try simp only [Act.put]
                      refine wpAnyH_take (i := 18) (v := ?_) rfl (by kernel_rfl) (by kernel_rfl) (by kernel_rfl) (fun _ _ _ h => h) (Or.inl ⟨by kernel_rfl, ?_⟩) hS3 ?_
                      rotate_left
                      · (intro w hSw; (try dsimp only at hSw); go_simp)
                        all_goals with_reducible rfl
                      try simp only [Act.put]
                      refine wpAnyH_take (i := 19) (v := ?_) rfl (by kernel_rfl) (by kernel_rfl) (by kernel_rfl) (fun _ _ _ h => h) (Or.inl ⟨by kernel_rfl, ?_⟩) hS3 ?_
                      rotate_left
                      · (intro w hSw; (try dsimp only at hSw); go_simp)
                        all_goals with_reducible rfl
                      try simp only [Act.put]
                      refine wpAnyH_take (i := 20) (v := ?_) rfl (by kernel_rfl) (by kernel_rfl) (by kernel_rfl) (fun _ _ _ h => h) (Or.inl ⟨by kernel_rfl, ?_⟩) hS3 ?_
                      rotate_left
                      · (intro w hSw; (try dsimp only at hSw); go_simp)
                        all_goals with_reducible rfl
                      try simp only [Act.put]
                      refine wpAnyH_take (i := 21) (v := ?_) rfl (by kernel_rfl) (by kernel_rfl) (by kernel_rfl) (fun _ _ _ h => h) (Or.inl ⟨by kernel_rfl, ?_⟩) hS3 ?_
                      rotate_left
                      · (intro w hSw; (try dsimp only at hSw); go_simp)
                        all_goals with_reducible rfl
                      try simp only [Act.put]
                      refine wpAnyH_take (i := 22) (v := ?_) rfl (by kernel_rfl) (by kernel_rfl) (by kernel_rfl) (fun _ _ _ h => h) (Or.inl ⟨by kernel_rfl, ?_⟩) hS3 ?_
                      rotate_left
                      · (intro w hSw; (try dsimp only at hSw); go_simp)
                        all_goals with_reducible rfl
                      try simp only [Act.put]
                      refine wpAnyH_take (i := 23) (v := ?_) rfl (by kernel_rfl) (by kernel_rfl) (by kernel_rfl) (fun _ _ _ h => h) (Or.inl ⟨by kernel_rfl, ?_⟩) hS3 ?_
                      rotate_left
                      · (intro w hSw; (try dsimp only at hSw); go_simp)
                        all_goals with_reducible rfl
                      try simp only [Act.put]
                      refine wpAnyH_take (i := 24) (v := undef) rfl (by kernel_rfl) (by kernel_rfl) (by kernel_rfl) (fun _ _ _ h => h) (Or.inr ⟨by kernel_rfl, rfl⟩) hS3 ?_
                      try simp only [Act.put]
                      refine wpAnyH_take (i := 25) (v := undef) rfl (by kernel_rfl) (by kernel_rfl) (by kernel_rfl) (fun _ _ _ h => h) (Or.inr ⟨by kernel_rfl, rfl⟩) hS3 ?_
                      try simp only [Act.put]
                      refine wpAnyH_take (i := 26) (v := undef) rfl (by kernel_rfl) (by kernel_rfl) (by kernel_rfl) (fun _ _ _ h => h) (Or.inr ⟨by kernel_rfl, rfl⟩) hS3 ?_
                      try simp only [Act.put]
                      refine wpAnyH_take (i := 27) (v := undef) rfl (by kernel_rfl) (by kernel_rfl) (by kernel_rfl) (fun _ _ _ h => h) (Or.inr ⟨by kernel_rfl, rfl⟩) hS3 ?_
                      try simp only [Act.put]
                      refine wpAnyH_take (i := 28) (v := ?_) rfl (by kernel_rfl) (by kernel_rfl) (by kernel_rfl) (fun _ _ _ h => h) (Or.inl ⟨by kernel_rfl, ?_⟩) hS3 ?_
                      rotate_left
                      · (intro w hSw; (try dsimp only at hSw); go_simp)
                        all_goals with_reducible rfl
                      try simp only [Act.put]
                      refine wpAnyH_take (i := 29) (v := ?_) rfl (by kernel_rfl) (by kernel_rfl) (by kernel_rfl) (fun _ _ _ h => h) (Or.inl ⟨by kernel_rfl, ?_⟩) hS3 ?_
                      rotate_left
                      · (intro w hSw; (try dsimp only at hSw); go_simp)
                        all_goals with_reducible rfl
                      try simp only [Act.put]
                      simp only [List.getElem_toArray, List.getElem_cons_succ, List.getElem_cons_zero, List.setIfInBounds_toArray, List.set_cons_zero, List.set_cons_succ]
                      refine wpAnyH_done (by kernel_rfl) ?_ _
                      have HBX := hide hS3.2.out
                      clear hS3
                      go_wp2_with fail
                      go_meet
                      case rel => exact ⟨rfl, HBX⟩
                  case rest =>
                    obtain ⟨rfl, HBQ⟩ := hcut
                    rename World => w20
                    have hb := HBQ.out
                    replace n0 := cell_later' hb n0
                    replace n1 := cell_later' hb n1
                    replace s0 := cell_later' hb s0
                    replace s1 := cell_later' hb s1
                    replace s2 := cell_later' hb s2
                    replace t0 := cell_later' hb t0
                    replace t1 := cell_later' hb t1
                    replace t2 := cell_later' hb t2
                    replace p0 := cell_later' hb p0
                    replace p1 := cell_later' hb p1
                    replace p2 := cell_later' hb p2
                    replace p3 := cell_later' hb p3
                    replace hltn0 := cell_lt n0
                    replace hlts0 := cell_lt s0
                    replace hltt0 := cell_lt t0
                    replace hltp0 := cell_lt p0
                    replace HP := hide (HP.out.later hb)
                    replace HJ := hide (HJ.out.later hb)
                    replace HBW := hide (HBW.out.trans (hb.mono HBW.out.size))
                    replace HZ1 := hide (HZ1.out.later hb)
                    replace HL1 := hide (HL1.out.later hb)
                    replace HIL := hide (HIL.out.later hb)
                    clear hb HBQ HPX h16 HPA HCS HPE
                    go_wp2_with fail
                    go_loopw [13, 17, 18, 19] (fun l kk _ _ wr => ∃ (k : Nat) (xs : List Int) (zz : Option Addr) (zc' : Nat), k ≤ 6 ∧ kk = .int .i64 k ∧ l = .slice zz xs.length zc' ∧ xs.length ≤ 1048576 ∧ Hid (∀ x ∈ xs, (Lit.int .i64 x).wf = true) ∧ Hid (IntsAt wr zz xs) ∧ Hid (Below w20.heap.size w20 wr)) (fun _ kk _ _ _ => 6 - (intOf kk).toNat)
                    case atStart => exact ⟨0, xs, zz, zc', by omega, rfl, by rw [hxl], by omega, HXW, HIL, Below.refl _ _⟩
                    case round =>
                      clear hxl HXW HIL
                      obtain ⟨k, xs, zz, zc', hk, rfl, rfl, hxl, HXW, HIL, HBR⟩ := hrel
                      rename World => w21
                      have hb := HBR.out
                      replace n0 := cell_later' hb n0
                      replace n1 := cell_later' hb n1
                      replace s0 := cell_later' hb s0
                      replace s1 := cell_later' hb s1
                      replace s2 := cell_later' hb s2
                      replace t0 := cell_later' hb t0
                      replace t1 := cell_later' hb t1
                      replace t2 := cell_later' hb t2
                      replace p0 := cell_later' hb p0
                      replace p1 := cell_later' hb p1
                      replace p2 := cell_later' hb p2
                      replace p3 := cell_later' hb p3
                      replace hltn0 := cell_lt n0
                      replace hlts0 := cell_lt s0
                      replace hltt0 := cell_lt t0
                      replace hltp0 := cell_lt p0
                      replace HP := hide (HP.out.later hb)
                      replace HJ := hide (HJ.out.later hb)
                      replace HBW := hide (HBW.out.trans (hb.mono HBW.out.size))
                      replace HZ1 := hide (HZ1.out.later hb)
                      replace HL1 := hide (HL1.out.later hb)
                      clear hb
                      by_cases hlt : k < 6
                      · have hki : (k : Int) < 6 := by omega
                        have hx3 : IntKind.i64.wrap (3 * (k : Int)) = ((3 * k : Nat) : Int) := by rw [IntKind.wrap_i64]; omega
                        have HBR2 := hide (HBR.out)
                        go_wp2_with fail
                        refine (wWhole_any z zc more (3 * k) _ HB'.out hml (by omega) (HZ.out.later HBW.out)).mono ?_
                        rintro e w22 ⟨rfl, hw22⟩
                        subst hw22
                        have hF := wholeP_bd HB'.out (3 * k)
                        generalize wholeP more (3 * k) = F at *
                        by_cases hk0 : k = 0
                        · have qk : ((k : Int) == 0) = true := by rw [beq_iff_eq]; omega
                          by_cases hl0 : 0 < ls.length
                          · have hlpi : (0 : Int) < (ls.length : Int) := by omega
                            clear hk0
                            as_aux_lemma =>
                              go_wp2_with fail
                              refine (implDrive_any pa ja zz N pcap jcap zc' xs q at1 wy fr _ HWA.out (wf_int (by omega) (by omega)) HXW.out (by omega) HS9.out (by omega) HM9.out hxl HP.out HJ.out HIL.out).mono ?_
                              rintro e w23 ⟨r, hDA, rfl, hb23⟩
                              have HDQ := hide (HDR.out xs fr r hDA)
                              replace n0 := cell_later' hb23 n0
                              replace n1 := cell_later' hb23 n1
                              replace s0 := cell_later' hb23 s0
                              replace s1 := cell_later' hb23 s1
                              replace s2 := cell_later' hb23 s2
                              replace t0 := cell_later' hb23 t0
                              replace t1 := cell_later' hb23 t1
                              replace t2 := cell_later' hb23 t2
                              replace p0 := cell_later' hb23 p0
                              replace p1 := cell_later' hb23 p1
                              replace p2 := cell_later' hb23 p2
                              replace p3 := cell_later' hb23 p3
                              replace hltn0 := cell_lt n0
                              replace hlts0 := cell_lt s0
                              replace hltt0 := cell_lt t0
                              replace hltp0 := cell_lt p0
                              replace HP := hide (HP.out.later hb23)
                              replace HJ := hide (HJ.out.later hb23)
                              replace HBW := hide (HBW.out.trans (hb23.mono HBW.out.size))
                              replace HZ1 := hide (HZ1.out.later hb23)
                              replace HL1 := hide (HL1.out.later hb23)
                              replace HBR2 := hide (HBR2.out.trans (hb23.mono HBR2.out.size))
                              clear hb23 hDA
                              go_upto_region 42 with fail
                              have hAl := (Below.refl w23.heap.size w23).alloc (Nat.le_refl _) (.cells #[.int .i64 r.code, .int .i64 r.far, .int .i64 r.joint, .int .i64 r.q, .int .i64 r.at', .int .i64 r.way] 49)
                              have d0 := new_cell w23 #[.int .i64 r.code, .int .i64 r.far, .int .i64 r.joint, .int .i64 r.q, .int .i64 r.at', .int .i64 r.way] 49 0 _ rfl
                              have d1 := new_cell w23 #[.int .i64 r.code, .int .i64 r.far, .int .i64 r.joint, .int .i64 r.q, .int .i64 r.at', .int .i64 r.way] 49 1 _ rfl
                              have d2 := new_cell w23 #[.int .i64 r.code, .int .i64 r.far, .int .i64 r.joint, .int .i64 r.q, .int .i64 r.at', .int .i64 r.way] 49 2 _ rfl
                              have d3 := new_cell w23 #[.int .i64 r.code, .int .i64 r.far, .int .i64 r.joint, .int .i64 r.q, .int .i64 r.at', .int .i64 r.way] 49 3 _ rfl
                              have d4 := new_cell w23 #[.int .i64 r.code, .int .i64 r.far, .int .i64 r.joint, .int .i64 r.q, .int .i64 r.at', .int .i64 r.way] 49 4 _ rfl
                              have d5 := new_cell w23 #[.int .i64 r.code, .int .i64 r.far, .int .i64 r.joint, .int .i64 r.q, .int .i64 r.at', .int .i64 r.way] 49 5 _ rfl
                              replace n0 := cell_later' hAl n0
                              replace n1 := cell_later' hAl n1
                              replace s0 := cell_later' hAl s0
                              replace s1 := cell_later' hAl s1
                              replace s2 := cell_later' hAl s2
                              replace t0 := cell_later' hAl t0
                              replace t1 := cell_later' hAl t1
                              replace t2 := cell_later' hAl t2
                              replace p0 := cell_later' hAl p0
                              replace p1 := cell_later' hAl p1
                              replace p2 := cell_later' hAl p2
                              replace p3 := cell_later' hAl p3
                              replace hltn0 := cell_lt n0
                              replace hlts0 := cell_lt s0
                              replace hltt0 := cell_lt t0
                              replace hltp0 := cell_lt p0
                              replace HP := hide (HP.out.later hAl)
                              replace HJ := hide (HJ.out.later hAl)
                              replace HBW := hide (HBW.out.trans (hAl.mono HBW.out.size))
                              replace HZ1 := hide (HZ1.out.later hAl)
                              replace HL1 := hide (HL1.out.later hAl)
                              replace HBR2 := hide (HBR2.out.trans (hAl.mono HBR2.out.size))
                              clear hAl
                              generalize w23.alloc (.cells #[.int .i64 r.code, .int .i64 r.far, .int .i64 r.joint, .int .i64 r.q, .int .i64 r.at', .int .i64 r.way] 49) = w24 at *
                              generalize w23.heap.size = bd at *
                              have hltd0 := cell_lt d0
                              go_cut [229] from 183 to 243 (fun s229 wz => s229 = .bool false ∧ w24 = wz)
                              case first =>
                                by_cases hc : r.code = 0
                                · by_cases g1 : r.q = q'
                                  · by_cases g2 : r.at' = at2
                                    · by_cases g3 : r.way = wy'
                                      · have hh := HDQ.out hc g1 g2 g3
                                        have hfl : decide (fr < fr) = false := decide_eq_false (by have := hh.2; omega)
                                        rw [hc] at d0
                                        rw [g1] at d3
                                        rw [g2] at d4
                                        rw [g3] at d5
                                        clear hh hc g1 g2 g3
                                        go_wp2_with fail
                                        go_meet
                                        case rel => exact ⟨rfl, rfl⟩
                                      · have hf : (r.way == wy') = false := by rw [beq_eq_false_iff_ne]; exact g3
                                        rw [hc] at d0
                                        rw [g1] at d3
                                        rw [g2] at d4
                                        clear hc g1 g2 g3
                                        go_wp2_with fail
                                        go_meet
                                        case rel => exact ⟨rfl, rfl⟩
                                    · have hf : (r.at' == at2) = false := by rw [beq_eq_false_iff_ne]; exact g2
                                      rw [hc] at d0
                                      rw [g1] at d3
                                      clear hc g1 g2
                                      go_wp2_with fail
                                      go_meet
                                      case rel => exact ⟨rfl, rfl⟩
                                  · have hf : (r.q == q') = false := by rw [beq_eq_false_iff_ne]; exact g1
                                    rw [hc] at d0
                                    clear hc g1
                                    go_wp2_with fail
                                    go_meet
                                    case rel => exact ⟨rfl, rfl⟩
                                · have hf : (r.code == 0) = false := by rw [beq_eq_false_iff_ne]; exact hc
                                  clear hc
                                  go_wp2_with fail
                                  go_meet
                                  case rel => exact ⟨rfl, rfl⟩
                              case rest =>
                                obtain ⟨rfl, hw⟩ := hcut
                                subst hw
                                have hu0 : IntKind.u8.wrap (byteP more k) = byteP more k := by have := byteP_bd HB'.out k; rw [IntKind.wrap_u8]; omega
                                have hu1 : IntKind.u8.wrap (k : Int) = (k : Int) := by rw [IntKind.wrap_u8]; omega
                                have hu2 : IntKind.u8.wrap (byteP more (k + 1)) = byteP more (k + 1) := by have := byteP_bd HB'.out (k + 1); rw [IntKind.wrap_u8]; omega
                                have hk1 : IntKind.i64.wrap ((k : Int) + 1) = ((k + 1 : Nat) : Int) := by rw [IntKind.wrap_i64]; omega
                                have HE1 := hide (show (k : Int) + 1 = ((k + 1 : Nat) : Int) by omega)
                                have HWX := hide (show ∀ (W : World) (x : Int) (i : Nat), x = (i : Int) → i ≤ 1000 → BytesAt W z more → Calls Tryz.prog 16 #[.slice z more.length zc, .int .i64 x] W fun e w' => e = .returned (.int .i64 (byteP more i)) ∧ W = w' from fun W x i hx hi hz => by
                                  rw [hx]
                                  exact wByte_any z zc more i W HB'.out hml hi hz)
                                have HBY := hide (show Bys [byteP more k, (k : Int), byteP more (k + 1)] from fun x hx => by
                                  have h1 := byteP_bd HB'.out k
                                  have h2 := byteP_bd HB'.out (k + 1)
                                  simp only [List.mem_cons, List.not_mem_nil, or_false] at hx
                                  rcases hx with rfl | rfl | rfl <;> omega)
                                have HN0 : Hid (NS w24 w24 bn (.slice pa N.pcs.length pcap) (.slice ja N.jts.length jcap)) := ⟨⟨n0, n1⟩, Below.refl _ _⟩
                                have HK1 := hide (keepNS ((Below.refl w24.heap.size w24).drew) HN0.out)
                                have HK2 := hide (keepNS (((Below.refl w24.heap.size w24).alloc (Nat.le_refl _) (.cells #[.int .u8 (byteP more k), .int .u8 (k : Int), .int .u8 (byteP more (k + 1))] 5)).drew) HN0.out)
                                have HZS := hide (fun wx (h : NS w24 wx bn (.slice pa N.pcs.length pcap) (.slice ja N.jts.length jcap)) => HZ.out.later (HBW.out.trans (h.2.out.mono HBW.out.size)))
                                have HJS := hide (fun wx (h : NS w24 wx bn (.slice pa N.pcs.length pcap) (.slice ja N.jts.length jcap)) => HJ.out.later h.2.out)
                                have HYB := hide ((bytes3 w24 (byteP more k) k (byteP more (k + 1))).later ((Below.refl _ _).drew))
                                have HXN := hide (show ∀ x ∈ liesL N [byteP more k, (k : Int), byteP more (k + 1)], (Lit.int .i64 x).wf = true from fun x hx => by have := liesL_bd N [byteP more k, (k : Int), byteP more (k + 1)] x hx; exact wf_int (by omega) (by omega))
                                have hxn : (liesL N [byteP more k, (k : Int), byteP more (k + 1)]).length ≤ 1048576 := by rw [liesL_len]; omega
                                clear d0 d1 d2 d3 d4 d5 s0 s1 s2 t0 t1 t2 p0 p1 p2 p3
                                go_upto_region 44 with fail
                                go_region_held3 (fun wx => NS w24 wx bn (.slice pa N.pcs.length pcap) (.slice ja N.jts.length jcap))
                                  (first
                                    | (with_reducible exact HK1.out)
                                    | (with_reducible exact HK2.out)
                                    | (with_reducible exact HGL.out))
                                  (first
                                    | (go_at_call 16; refine (HWX.out _ _ _ (by first | exact HE1.out | exact rfl) (by omega) (HZS.out _ (by assumption))).mono ?_; rintro e wB ⟨rfl, hwB⟩; subst hwB)
                                    | (go_at_call 9; refine (lies_any pa ja (some ⟨w24.heap.size, 0, none⟩) N pcap jcap 3 [byteP more k, (k : Int), byteP more (k + 1)] _ HNB.out HBY.out (by simp) (HJS.out _ (by assumption)) HYB.out).mono ?_; rintro e w25 ⟨v, rfl, how, hb25⟩; obtain ⟨zn, zm, rfl, hIN⟩ := ints_of_owns how; have HIN := hide hIN; have HGL : Hid (NS w24 w25 bn (.slice pa N.pcs.length pcap) (.slice ja N.jts.length jcap)) := keepNS hb25 (by assumption); clear hIN how hb25))
                                all_goals
                                  have HBN := hide (HBR2.out.trans (HGL.out.2.out.mono HBR2.out.size))
                                  go_wp2_with fail
                                  go_roundw
                                  case rel => exact ⟨k + 1, _, zn, zm, by omega, by go_num, rfl, hxn, HXN, HIN, HBN⟩
                                  case measure => simp [intOf]; omega
                          · have hls : ls = [] := List.eq_nil_of_length_eq_zero (by omega)
                            subst hls
                            clear hk0 hl0
                            as_aux_lemma =>
                              go_wp2_with fail
                              refine (implDrive_any pa ja zz N pcap jcap zc' xs q at1 wy F _ HWA.out (wf_int (by omega) (by omega)) HXW.out (by omega) HS9.out (by omega) HM9.out hxl HP.out HJ.out HIL.out).mono ?_
                              rintro e w23 ⟨r, hDA, rfl, hb23⟩
                              have HDQ := hide (HDR.out xs F r hDA)
                              replace n0 := cell_later' hb23 n0
                              replace n1 := cell_later' hb23 n1
                              replace s0 := cell_later' hb23 s0
                              replace s1 := cell_later' hb23 s1
                              replace s2 := cell_later' hb23 s2
                              replace t0 := cell_later' hb23 t0
                              replace t1 := cell_later' hb23 t1
                              replace t2 := cell_later' hb23 t2
                              replace p0 := cell_later' hb23 p0
                              replace p1 := cell_later' hb23 p1
                              replace p2 := cell_later' hb23 p2
                              replace p3 := cell_later' hb23 p3
                              replace hltn0 := cell_lt n0
                              replace hlts0 := cell_lt s0
                              replace hltt0 := cell_lt t0
                              replace hltp0 := cell_lt p0
                              replace HP := hide (HP.out.later hb23)
                              replace HJ := hide (HJ.out.later hb23)
                              replace HBW := hide (HBW.out.trans (hb23.mono HBW.out.size))
                              replace HZ1 := hide (HZ1.out.later hb23)
                              replace HL1 := hide (HL1.out.later hb23)
                              replace HBR2 := hide (HBR2.out.trans (hb23.mono HBR2.out.size))
                              clear hb23 hDA
                              go_upto_region 42 with fail
                              have hAl := (Below.refl w23.heap.size w23).alloc (Nat.le_refl _) (.cells #[.int .i64 r.code, .int .i64 r.far, .int .i64 r.joint, .int .i64 r.q, .int .i64 r.at', .int .i64 r.way] 49)
                              have d0 := new_cell w23 #[.int .i64 r.code, .int .i64 r.far, .int .i64 r.joint, .int .i64 r.q, .int .i64 r.at', .int .i64 r.way] 49 0 _ rfl
                              have d1 := new_cell w23 #[.int .i64 r.code, .int .i64 r.far, .int .i64 r.joint, .int .i64 r.q, .int .i64 r.at', .int .i64 r.way] 49 1 _ rfl
                              have d2 := new_cell w23 #[.int .i64 r.code, .int .i64 r.far, .int .i64 r.joint, .int .i64 r.q, .int .i64 r.at', .int .i64 r.way] 49 2 _ rfl
                              have d3 := new_cell w23 #[.int .i64 r.code, .int .i64 r.far, .int .i64 r.joint, .int .i64 r.q, .int .i64 r.at', .int .i64 r.way] 49 3 _ rfl
                              have d4 := new_cell w23 #[.int .i64 r.code, .int .i64 r.far, .int .i64 r.joint, .int .i64 r.q, .int .i64 r.at', .int .i64 r.way] 49 4 _ rfl
                              have d5 := new_cell w23 #[.int .i64 r.code, .int .i64 r.far, .int .i64 r.joint, .int .i64 r.q, .int .i64 r.at', .int .i64 r.way] 49 5 _ rfl
                              replace n0 := cell_later' hAl n0
                              replace n1 := cell_later' hAl n1
                              replace s0 := cell_later' hAl s0
                              replace s1 := cell_later' hAl s1
                              replace s2 := cell_later' hAl s2
                              replace t0 := cell_later' hAl t0
                              replace t1 := cell_later' hAl t1
                              replace t2 := cell_later' hAl t2
                              replace p0 := cell_later' hAl p0
                              replace p1 := cell_later' hAl p1
                              replace p2 := cell_later' hAl p2
                              replace p3 := cell_later' hAl p3
                              replace hltn0 := cell_lt n0
                              replace hlts0 := cell_lt s0
                              replace hltt0 := cell_lt t0
                              replace hltp0 := cell_lt p0
                              replace HP := hide (HP.out.later hAl)
                              replace HJ := hide (HJ.out.later hAl)
                              replace HBW := hide (HBW.out.trans (hAl.mono HBW.out.size))
                              replace HZ1 := hide (HZ1.out.later hAl)
                              replace HL1 := hide (HL1.out.later hAl)
                              replace HBR2 := hide (HBR2.out.trans (hAl.mono HBR2.out.size))
                              clear hAl
                              generalize w23.alloc (.cells #[.int .i64 r.code, .int .i64 r.far, .int .i64 r.joint, .int .i64 r.q, .int .i64 r.at', .int .i64 r.way] 49) = w24 at *
                              generalize w23.heap.size = bd at *
                              have hltd0 := cell_lt d0
                              go_cut [229] from 183 to 243 (fun s229 wz => s229 = .bool false ∧ w24 = wz)
                              case first =>
                                by_cases hc : r.code = 0
                                · by_cases g1 : r.q = q'
                                  · by_cases g2 : r.at' = at2
                                    · by_cases g3 : r.way = wy'
                                      · have hh := HDQ.out hc g1 g2 g3
                                        have hfl : decide (F < fr) = false := decide_eq_false (by have := hh.2; omega)
                                        rw [hc] at d0
                                        rw [g1] at d3
                                        rw [g2] at d4
                                        rw [g3] at d5
                                        clear hh hc g1 g2 g3
                                        go_wp2_with fail
                                        go_meet
                                        case rel => exact ⟨rfl, rfl⟩
                                      · have hf : (r.way == wy') = false := by rw [beq_eq_false_iff_ne]; exact g3
                                        rw [hc] at d0
                                        rw [g1] at d3
                                        rw [g2] at d4
                                        clear hc g1 g2 g3
                                        go_wp2_with fail
                                        go_meet
                                        case rel => exact ⟨rfl, rfl⟩
                                    · have hf : (r.at' == at2) = false := by rw [beq_eq_false_iff_ne]; exact g2
                                      rw [hc] at d0
                                      rw [g1] at d3
                                      clear hc g1 g2
                                      go_wp2_with fail
                                      go_meet
                                      case rel => exact ⟨rfl, rfl⟩
                                  · have hf : (r.q == q') = false := by rw [beq_eq_false_iff_ne]; exact g1
                                    rw [hc] at d0
                                    clear hc g1
                                    go_wp2_with fail
                                    go_meet
                                    case rel => exact ⟨rfl, rfl⟩
                                · have hf : (r.code == 0) = false := by rw [beq_eq_false_iff_ne]; exact hc
                                  clear hc
                                  go_wp2_with fail
                                  go_meet
                                  case rel => exact ⟨rfl, rfl⟩
                              case rest =>
                                obtain ⟨rfl, hw⟩ := hcut
                                subst hw
                                have hu0 : IntKind.u8.wrap (byteP more k) = byteP more k := by have := byteP_bd HB'.out k; rw [IntKind.wrap_u8]; omega
                                have hu1 : IntKind.u8.wrap (k : Int) = (k : Int) := by rw [IntKind.wrap_u8]; omega
                                have hu2 : IntKind.u8.wrap (byteP more (k + 1)) = byteP more (k + 1) := by have := byteP_bd HB'.out (k + 1); rw [IntKind.wrap_u8]; omega
                                have hk1 : IntKind.i64.wrap ((k : Int) + 1) = ((k + 1 : Nat) : Int) := by rw [IntKind.wrap_i64]; omega
                                have HE1 := hide (show (k : Int) + 1 = ((k + 1 : Nat) : Int) by omega)
                                have HWX := hide (show ∀ (W : World) (x : Int) (i : Nat), x = (i : Int) → i ≤ 1000 → BytesAt W z more → Calls Tryz.prog 16 #[.slice z more.length zc, .int .i64 x] W fun e w' => e = .returned (.int .i64 (byteP more i)) ∧ W = w' from fun W x i hx hi hz => by
                                  rw [hx]
                                  exact wByte_any z zc more i W HB'.out hml hi hz)
                                have HBY := hide (show Bys [byteP more k, (k : Int), byteP more (k + 1)] from fun x hx => by
                                  have h1 := byteP_bd HB'.out k
                                  have h2 := byteP_bd HB'.out (k + 1)
                                  simp only [List.mem_cons, List.not_mem_nil, or_false] at hx
                                  rcases hx with rfl | rfl | rfl <;> omega)
                                have HN0 : Hid (NS w24 w24 bn (.slice pa N.pcs.length pcap) (.slice ja N.jts.length jcap)) := ⟨⟨n0, n1⟩, Below.refl _ _⟩
                                have HK1 := hide (keepNS ((Below.refl w24.heap.size w24).drew) HN0.out)
                                have HK2 := hide (keepNS (((Below.refl w24.heap.size w24).alloc (Nat.le_refl _) (.cells #[.int .u8 (byteP more k), .int .u8 (k : Int), .int .u8 (byteP more (k + 1))] 5)).drew) HN0.out)
                                have HZS := hide (fun wx (h : NS w24 wx bn (.slice pa N.pcs.length pcap) (.slice ja N.jts.length jcap)) => HZ.out.later (HBW.out.trans (h.2.out.mono HBW.out.size)))
                                have HJS := hide (fun wx (h : NS w24 wx bn (.slice pa N.pcs.length pcap) (.slice ja N.jts.length jcap)) => HJ.out.later h.2.out)
                                have HYB := hide ((bytes3 w24 (byteP more k) k (byteP more (k + 1))).later ((Below.refl _ _).drew))
                                have HXN := hide (show ∀ x ∈ liesL N [byteP more k, (k : Int), byteP more (k + 1)], (Lit.int .i64 x).wf = true from fun x hx => by have := liesL_bd N [byteP more k, (k : Int), byteP more (k + 1)] x hx; exact wf_int (by omega) (by omega))
                                have hxn : (liesL N [byteP more k, (k : Int), byteP more (k + 1)]).length ≤ 1048576 := by rw [liesL_len]; omega
                                clear d0 d1 d2 d3 d4 d5 s0 s1 s2 t0 t1 t2 p0 p1 p2 p3
                                go_upto_region 44 with fail
                                go_region_held3 (fun wx => NS w24 wx bn (.slice pa N.pcs.length pcap) (.slice ja N.jts.length jcap))
                                  (first
                                    | (with_reducible exact HK1.out)
                                    | (with_reducible exact HK2.out)
                                    | (with_reducible exact HGL.out))
                                  (first
                                    | (go_at_call 16; refine (HWX.out _ _ _ (by first | exact HE1.out | exact rfl) (by omega) (HZS.out _ (by assumption))).mono ?_; rintro e wB ⟨rfl, hwB⟩; subst hwB)
                                    | (go_at_call 9; refine (lies_any pa ja (some ⟨w24.heap.size, 0, none⟩) N pcap jcap 3 [byteP more k, (k : Int), byteP more (k + 1)] _ HNB.out HBY.out (by simp) (HJS.out _ (by assumption)) HYB.out).mono ?_; rintro e w25 ⟨v, rfl, how, hb25⟩; obtain ⟨zn, zm, rfl, hIN⟩ := ints_of_owns how; have HIN := hide hIN; have HGL : Hid (NS w24 w25 bn (.slice pa N.pcs.length pcap) (.slice ja N.jts.length jcap)) := keepNS hb25 (by assumption); clear hIN how hb25))
                                all_goals
                                  have HBN := hide (HBR2.out.trans (HGL.out.2.out.mono HBR2.out.size))
                                  go_wp2_with fail
                                  go_roundw
                                  case rel => exact ⟨k + 1, _, zn, zm, by omega, by go_num, rfl, hxn, HXN, HIN, HBN⟩
                                  case measure => simp [intOf]; omega
                        · have qk : ((k : Int) == 0) = false := by rw [beq_eq_false_iff_ne]; omega
                          clear hk0
                          as_aux_lemma =>
                            go_wp2_with fail
                            refine (implDrive_any pa ja zz N pcap jcap zc' xs q at1 wy F _ HWA.out (wf_int (by omega) (by omega)) HXW.out (by omega) HS9.out (by omega) HM9.out hxl HP.out HJ.out HIL.out).mono ?_
                            rintro e w23 ⟨r, hDA, rfl, hb23⟩
                            have HDQ := hide (HDR.out xs F r hDA)
                            replace n0 := cell_later' hb23 n0
                            replace n1 := cell_later' hb23 n1
                            replace s0 := cell_later' hb23 s0
                            replace s1 := cell_later' hb23 s1
                            replace s2 := cell_later' hb23 s2
                            replace t0 := cell_later' hb23 t0
                            replace t1 := cell_later' hb23 t1
                            replace t2 := cell_later' hb23 t2
                            replace p0 := cell_later' hb23 p0
                            replace p1 := cell_later' hb23 p1
                            replace p2 := cell_later' hb23 p2
                            replace p3 := cell_later' hb23 p3
                            replace hltn0 := cell_lt n0
                            replace hlts0 := cell_lt s0
                            replace hltt0 := cell_lt t0
                            replace hltp0 := cell_lt p0
                            replace HP := hide (HP.out.later hb23)
                            replace HJ := hide (HJ.out.later hb23)
                            replace HBW := hide (HBW.out.trans (hb23.mono HBW.out.size))
                            replace HZ1 := hide (HZ1.out.later hb23)
                            replace HL1 := hide (HL1.out.later hb23)
                            replace HBR2 := hide (HBR2.out.trans (hb23.mono HBR2.out.size))
                            clear hb23 hDA
                            go_upto_region 42 with fail
                            have hAl := (Below.refl w23.heap.size w23).alloc (Nat.le_refl _) (.cells #[.int .i64 r.code, .int .i64 r.far, .int .i64 r.joint, .int .i64 r.q, .int .i64 r.at', .int .i64 r.way] 49)
                            have d0 := new_cell w23 #[.int .i64 r.code, .int .i64 r.far, .int .i64 r.joint, .int .i64 r.q, .int .i64 r.at', .int .i64 r.way] 49 0 _ rfl
                            have d1 := new_cell w23 #[.int .i64 r.code, .int .i64 r.far, .int .i64 r.joint, .int .i64 r.q, .int .i64 r.at', .int .i64 r.way] 49 1 _ rfl
                            have d2 := new_cell w23 #[.int .i64 r.code, .int .i64 r.far, .int .i64 r.joint, .int .i64 r.q, .int .i64 r.at', .int .i64 r.way] 49 2 _ rfl
                            have d3 := new_cell w23 #[.int .i64 r.code, .int .i64 r.far, .int .i64 r.joint, .int .i64 r.q, .int .i64 r.at', .int .i64 r.way] 49 3 _ rfl
                            have d4 := new_cell w23 #[.int .i64 r.code, .int .i64 r.far, .int .i64 r.joint, .int .i64 r.q, .int .i64 r.at', .int .i64 r.way] 49 4 _ rfl
                            have d5 := new_cell w23 #[.int .i64 r.code, .int .i64 r.far, .int .i64 r.joint, .int .i64 r.q, .int .i64 r.at', .int .i64 r.way] 49 5 _ rfl
                            replace n0 := cell_later' hAl n0
                            replace n1 := cell_later' hAl n1
                            replace s0 := cell_later' hAl s0
                            replace s1 := cell_later' hAl s1
                            replace s2 := cell_later' hAl s2
                            replace t0 := cell_later' hAl t0
                            replace t1 := cell_later' hAl t1
                            replace t2 := cell_later' hAl t2
                            replace p0 := cell_later' hAl p0
                            replace p1 := cell_later' hAl p1
                            replace p2 := cell_later' hAl p2
                            replace p3 := cell_later' hAl p3
                            replace hltn0 := cell_lt n0
                            replace hlts0 := cell_lt s0
                            replace hltt0 := cell_lt t0
                            replace hltp0 := cell_lt p0
                            replace HP := hide (HP.out.later hAl)
                            replace HJ := hide (HJ.out.later hAl)
                            replace HBW := hide (HBW.out.trans (hAl.mono HBW.out.size))
                            replace HZ1 := hide (HZ1.out.later hAl)
                            replace HL1 := hide (HL1.out.later hAl)
                            replace HBR2 := hide (HBR2.out.trans (hAl.mono HBR2.out.size))
                            clear hAl
                            generalize w23.alloc (.cells #[.int .i64 r.code, .int .i64 r.far, .int .i64 r.joint, .int .i64 r.q, .int .i64 r.at', .int .i64 r.way] 49) = w24 at *
                            generalize w23.heap.size = bd at *
                            have hltd0 := cell_lt d0
                            go_cut [229] from 183 to 243 (fun s229 wz => s229 = .bool false ∧ w24 = wz)
                            case first =>
                              by_cases hc : r.code = 0
                              · by_cases g1 : r.q = q'
                                · by_cases g2 : r.at' = at2
                                  · by_cases g3 : r.way = wy'
                                    · have hh := HDQ.out hc g1 g2 g3
                                      have hfl : decide (F < fr) = false := decide_eq_false (by have := hh.2; omega)
                                      rw [hc] at d0
                                      rw [g1] at d3
                                      rw [g2] at d4
                                      rw [g3] at d5
                                      clear hh hc g1 g2 g3
                                      go_wp2_with fail
                                      go_meet
                                      case rel => exact ⟨rfl, rfl⟩
                                    · have hf : (r.way == wy') = false := by rw [beq_eq_false_iff_ne]; exact g3
                                      rw [hc] at d0
                                      rw [g1] at d3
                                      rw [g2] at d4
                                      clear hc g1 g2 g3
                                      go_wp2_with fail
                                      go_meet
                                      case rel => exact ⟨rfl, rfl⟩
                                  · have hf : (r.at' == at2) = false := by rw [beq_eq_false_iff_ne]; exact g2
                                    rw [hc] at d0
                                    rw [g1] at d3
                                    clear hc g1 g2
                                    go_wp2_with fail
                                    go_meet
                                    case rel => exact ⟨rfl, rfl⟩
                                · have hf : (r.q == q') = false := by rw [beq_eq_false_iff_ne]; exact g1
                                  rw [hc] at d0
                                  clear hc g1
                                  go_wp2_with fail
                                  go_meet
                                  case rel => exact ⟨rfl, rfl⟩
                              · have hf : (r.code == 0) = false := by rw [beq_eq_false_iff_ne]; exact hc
                                clear hc
                                go_wp2_with fail
                                go_meet
                                case rel => exact ⟨rfl, rfl⟩
                            case rest =>
                              obtain ⟨rfl, hw⟩ := hcut
                              subst hw
                              have hu0 : IntKind.u8.wrap (byteP more k) = byteP more k := by have := byteP_bd HB'.out k; rw [IntKind.wrap_u8]; omega
                              have hu1 : IntKind.u8.wrap (k : Int) = (k : Int) := by rw [IntKind.wrap_u8]; omega
                              have hu2 : IntKind.u8.wrap (byteP more (k + 1)) = byteP more (k + 1) := by have := byteP_bd HB'.out (k + 1); rw [IntKind.wrap_u8]; omega
                              have hk1 : IntKind.i64.wrap ((k : Int) + 1) = ((k + 1 : Nat) : Int) := by rw [IntKind.wrap_i64]; omega
                              have HE1 := hide (show (k : Int) + 1 = ((k + 1 : Nat) : Int) by omega)
                              have HWX := hide (show ∀ (W : World) (x : Int) (i : Nat), x = (i : Int) → i ≤ 1000 → BytesAt W z more → Calls Tryz.prog 16 #[.slice z more.length zc, .int .i64 x] W fun e w' => e = .returned (.int .i64 (byteP more i)) ∧ W = w' from fun W x i hx hi hz => by
                                rw [hx]
                                exact wByte_any z zc more i W HB'.out hml hi hz)
                              have HBY := hide (show Bys [byteP more k, (k : Int), byteP more (k + 1)] from fun x hx => by
                                have h1 := byteP_bd HB'.out k
                                have h2 := byteP_bd HB'.out (k + 1)
                                simp only [List.mem_cons, List.not_mem_nil, or_false] at hx
                                rcases hx with rfl | rfl | rfl <;> omega)
                              have HN0 : Hid (NS w24 w24 bn (.slice pa N.pcs.length pcap) (.slice ja N.jts.length jcap)) := ⟨⟨n0, n1⟩, Below.refl _ _⟩
                              have HK1 := hide (keepNS ((Below.refl w24.heap.size w24).drew) HN0.out)
                              have HK2 := hide (keepNS (((Below.refl w24.heap.size w24).alloc (Nat.le_refl _) (.cells #[.int .u8 (byteP more k), .int .u8 (k : Int), .int .u8 (byteP more (k + 1))] 5)).drew) HN0.out)
                              have HZS := hide (fun wx (h : NS w24 wx bn (.slice pa N.pcs.length pcap) (.slice ja N.jts.length jcap)) => HZ.out.later (HBW.out.trans (h.2.out.mono HBW.out.size)))
                              have HJS := hide (fun wx (h : NS w24 wx bn (.slice pa N.pcs.length pcap) (.slice ja N.jts.length jcap)) => HJ.out.later h.2.out)
                              have HYB := hide ((bytes3 w24 (byteP more k) k (byteP more (k + 1))).later ((Below.refl _ _).drew))
                              have HXN := hide (show ∀ x ∈ liesL N [byteP more k, (k : Int), byteP more (k + 1)], (Lit.int .i64 x).wf = true from fun x hx => by have := liesL_bd N [byteP more k, (k : Int), byteP more (k + 1)] x hx; exact wf_int (by omega) (by omega))
                              have hxn : (liesL N [byteP more k, (k : Int), byteP more (k + 1)]).length ≤ 1048576 := by rw [liesL_len]; omega
                              clear d0 d1 d2 d3 d4 d5 s0 s1 s2 t0 t1 t2 p0 p1 p2 p3
                              go_upto_region 44 with fail
                              go_region_held3 (fun wx => NS w24 wx bn (.slice pa N.pcs.length pcap) (.slice ja N.jts.length jcap))
                                (first
                                  | (with_reducible exact HK1.out)
                                  | (with_reducible exact HK2.out)
                                  | (with_reducible exact HGL.out))
                                (first
                                  | (go_at_call 16; refine (HWX.out _ _ _ (by first | exact HE1.out | exact rfl) (by omega) (HZS.out _ (by assumption))).mono ?_; rintro e wB ⟨rfl, hwB⟩; subst hwB)
                                  | (go_at_call 9; refine (lies_any pa ja (some ⟨w24.heap.size, 0, none⟩) N pcap jcap 3 [byteP more k, (k : Int), byteP more (k + 1)] _ HNB.out HBY.out (by simp) (HJS.out _ (by assumption)) HYB.out).mono ?_; rintro e w25 ⟨v, rfl, how, hb25⟩; obtain ⟨zn, zm, rfl, hIN⟩ := ints_of_owns how; have HIN := hide hIN; have HGL : Hid (NS w24 w25 bn (.slice pa N.pcs.length pcap) (.slice ja N.jts.length jcap)) := keepNS hb25 (by assumption); clear hIN how hb25))
                              all_goals
                                have HBN := hide (HBR2.out.trans (HGL.out.2.out.mono HBR2.out.size))
                                go_wp2_with fail
                                go_roundw
                                case rel => exact ⟨k + 1, _, zn, zm, by omega, by go_num, rfl, hxn, HXN, HIN, HBN⟩
                                case measure => simp [intOf]; omega
                      · have hke : k = 6 := by omega
                        subst hke
                        go_wp2_with fail
                        go_ret
                        exact ⟨rfl, HBW.out⟩
end Go.Proofs.YtldafgbhjpfboaaGreat
