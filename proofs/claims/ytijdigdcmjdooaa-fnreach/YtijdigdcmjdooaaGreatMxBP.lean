/- The law FnReach's walk. Own work. -/
import Derived.Test.YtijdigdcmjdooaaGreatMxBH
import Derived.Test.YtijdigdcmjdooaaGreatMxBI
import Derived.Test.YtijdigdcmjdooaaGreatMxBL
import Derived.Test.YtijdigdcmjdooaaGreatMxBM
import Derived.Test.YtijdigdcmjdooaaGreatDlA
import Derived.Test.YtijdigdcmjdooaaGreatMxBO
import Derived.Test.YtijdigdcmjdooaaGreatMxBK
import Derived.Deep.RegionHeld3
import Derived.Test.YtijdigdcmjdooaaGreatMxAL
import Derived.Test.YtijdigdcmjdooaaGreatMxAW
import Derived.Test.YtijdigdcmjdooaaGreatRows
import Derived.ProofKit
import Derived.OpenShut
import Derived.ChangeOld
namespace Go.Proofs.YtijdigdcmjdooaaGreat
open Go.RowKit Go.Sort
set_option maxHeartbeats 16000000
set_option maxRecDepth 100000

theorem lenAt_le2 {N : Nt} (h : NetBd N) (q : Int) : 0 ≤ lenAt N q ∧ lenAt N q ≤ 300 := by
  unfold lenAt
  split
  · rename_i p hp
    have := h.lens p (List.mem_of_getElem? hp)
    omega
  · omega
theorem spot_wf {N : Nt} {q a wy : Int} (h : NetBd N) (hs : spotP N q a wy = true) : Wf3 q a wy := by
  have hw := spot_way hs
  have hn := h.few
  have hl := lenAt_le2 h q
  simp only [spotP, inR, Bool.and_eq_true, decide_eq_true_eq] at hs
  exact ⟨wf_int (by omega) (by omega), wf_int (by omega) (by omega), wf_int (by omega) (by omega)⟩
theorem spots_row {w : World} {base : Nat} {e : TypeId} {v : Value} {ps : List (Int × Int × Int)} (h : w.ownsRow base e 3 v ps.length (partCells ps)) : ∃ z zc, v = .slice z ps.length zc ∧ PartsAt w z ps := by
  rcases parts_of_owns h with ⟨rfl, rfl⟩ | ⟨b, cap, rfl, hb, hn, hP, hR⟩
  · exact ⟨none, 0, rfl, fun k hk => by simp at hk⟩
  · exact ⟨_, cap, rfl, hP⟩
theorem bytes3 (w : World) (x y u : Int) : BytesAt (w.alloc (.cells #[.int .u8 x, .int .u8 y, .int .u8 u] 5)) (some ⟨w.heap.size, 0, none⟩) [x, y, u] := by
  intro k hk
  have hk3 : k < 3 := by simpa using hk
  refine ⟨_, 0, rfl, ?_⟩
  have hc : k = 0 ∨ k = 1 ∨ k = 2 := by omega
  rcases hc with rfl | rfl | rfl
  · exact new_cell w _ _ 0 _ rfl
  · exact new_cell w _ _ 1 _ rfl
  · exact new_cell w _ _ 2 _ rfl
/-- What the law holds: the track's box, the spot's box, what is told. -/
structure RW (w wx : World) (bn bs : Nat) (pa ja z : Option Addr) (N : Nt) (pcap jcap : Nat) (q a wy : Int) (ps : List (Int × Int × Int)) : Prop where
  n0 : wx.cell? ⟨bn, 0, none⟩ = some (.slice pa N.pcs.length pcap)
  n1 : wx.cell? ⟨bn, 1, none⟩ = some (.slice ja N.jts.length jcap)
  s0 : wx.cell? ⟨bs, 0, none⟩ = some (.int .i64 q)
  s1 : wx.cell? ⟨bs, 1, none⟩ = some (.int .i64 a)
  s2 : wx.cell? ⟨bs, 2, none⟩ = some (.int .i64 wy)
  pcs : PcsAt wx pa N.pcs
  jts : JtsAt wx ja N.jts
  row : PartsAt wx z ps
  below : Below w.heap.size w wx
theorem RW.later {w wx wx' : World} {bn bs : Nat} {pa ja z : Option Addr} {N : Nt} {pcap jcap : Nat} {q a wy : Int} {ps : List (Int × Int × Int)} (h : RW w wx bn bs pa ja z N pcap jcap q a wy ps) (hb : Below wx.heap.size wx wx') : RW w wx' bn bs pa ja z N pcap jcap q a wy ps :=
  ⟨cell_later' hb h.n0, cell_later' hb h.n1, cell_later' hb h.s0, cell_later' hb h.s1, cell_later' hb h.s2, h.pcs.later hb, h.jts.later hb, h.row.later hb, h.below.trans (hb.mono h.below.size)⟩
theorem RW.with {w wx : World} {bn bs : Nat} {pa ja z z' : Option Addr} {N : Nt} {pcap jcap : Nat} {q a wy : Int} {ps ps' : List (Int × Int × Int)} (h : RW w wx bn bs pa ja z N pcap jcap q a wy ps) (hr : PartsAt wx z' ps') : RW w wx bn bs pa ja z' N pcap jcap q a wy ps' :=
  ⟨h.n0, h.n1, h.s0, h.s1, h.s2, h.pcs, h.jts, hr, h.below⟩
abbrev NS (w0 wx : World) (bn : Nat) (v0 v1 : Value) : Prop := (wx.cell? ⟨bn, 0, none⟩ = some v0 ∧ wx.cell? ⟨bn, 1, none⟩ = some v1) ∧ Hid (Below w0.heap.size w0 wx)
theorem keepNS {w0 w2 w3 : World} {bn : Nat} {v0 v1 : Value} (hb : Below w2.heap.size w2 w3) (h : NS w0 w2 bn v0 v1) : NS w0 w3 bn v0 v1 := ⟨⟨cell_later' hb h.1.1, cell_later' hb h.1.2⟩, h.2.out.trans (hb.mono h.2.out.size)⟩

/-- What is read of the track's box, the spot's, a told spot. -/
abbrev S15 (W wx : World) (bN bA bB o : Nat) (v0 v1 : Value) (q a wy q' a' wy' : Int) : Prop :=
  (wx.cell? ⟨bN, 0, none⟩ = some v0 ∧ wx.cell? ⟨bN, 1, none⟩ = some v1 ∧ wx.cell? ⟨bA, 0, none⟩ = some (.int .i64 q) ∧ wx.cell? ⟨bA, 1, none⟩ = some (.int .i64 a) ∧ wx.cell? ⟨bA, 2, none⟩ = some (.int .i64 wy) ∧ wx.cell? ⟨bB, o, none⟩ = some (.int .i64 q') ∧ wx.cell? ⟨bB, o + 1, none⟩ = some (.int .i64 a') ∧ wx.cell? ⟨bB, o + 2, none⟩ = some (.int .i64 wy')) ∧ Hid (Below W.heap.size W wx)
section
variable {W w2 w3 : World} {bN bA bB o : Nat} {v0 v1 : Value} {q a wy q' a' wy' : Int}
theorem held15 (h : S15 W w2 bN bA bB o v0 v1 q a wy q' a' wy') : Below W.heap.size W w2 := h.2.out
theorem keep15 (hb : Below w2.heap.size w2 w3) (h : S15 W w2 bN bA bB o v0 v1 q a wy q' a' wy') : S15 W w3 bN bA bB o v0 v1 q a wy q' a' wy' := by
  obtain ⟨⟨h0, h1, h3, h4, h5, h6, h7, h8⟩, hw⟩ := h
  exact ⟨⟨cell_later' hb h0, cell_later' hb h1, cell_later' hb h3, cell_later' hb h4, cell_later' hb h5, cell_later' hb h6, cell_later' hb h7, cell_later' hb h8⟩, hw.out.trans (hb.mono hw.out.size)⟩
theorem mid15 {b : Nat} (hb : W.heap.size ≤ b) (hL : bN < W.heap.size) (hA : bA < W.heap.size) (hB : bB < W.heap.size) (h : S15 W w2 bN bA bB o v0 v1 q a wy q' a' wy') (x0 x1 x2 x3 : Value) : S15 W (put4 w2 b x0 x1 x2 x3) bN bA bB o v0 v1 q a wy q' a' wy' := by
  have hm := mid4 w2 b x0 x1 x2 x3
  have hW := below4 h.2.out hb x0 x1 x2 x3
  obtain ⟨⟨h0, h1, h3, h4, h5, h6, h7, h8⟩, hw⟩ := h
  exact ⟨⟨hm.cell (.inl (by omega)) h0, hm.cell (.inl (by omega)) h1, hm.cell (.inl (by omega)) h3, hm.cell (.inl (by omega)) h4, hm.cell (.inl (by omega)) h5, hm.cell (.inl (by omega)) h6, hm.cell (.inl (by omega)) h7, hm.cell (.inl (by omega)) h8⟩, hW⟩
end
theorem zeroP_of {w w1 : World} (hb : Below (w.alloc (.cells #[.bool false, .int .i64 0, .slice none 0 0, .slice none 0 0] 37)).drew.heap.size (w.alloc (.cells #[.bool false, .int .i64 0, .slice none 0 0, .slice none 0 0] 37)).drew w1) : ZeroP w1 w.heap.size :=
  (ZeroP.new w).later (((Below.refl _ _).drew).trans hb)
theorem ZeroP.put4 {w : World} {b : Nat} (h : ZeroP w b) (x0 x1 x2 x3 : Value) : (put4 w b x0 x1 x2 x3).cell? ⟨b, 0, none⟩ = some x0 ∧ (put4 w b x0 x1 x2 x3).cell? ⟨b, 1, none⟩ = some x1 := by
  obtain ⟨⟨h0, h1, h2, h3⟩, _⟩ := h
  exact ⟨by simp [go_sem, h0], by simp [go_sem, h1]⟩

theorem fnReach_drawn (a z : Option Addr) (cap zc : Nat) (code more : List Int) (w : World) (hB : Bys code) (hB' : Bys more) (hn : code.length ≤ maxLen) (hn' : more.length ≤ maxLen) (hx : BytesAt w a code) (hz : BytesAt w z more) :
    Calls Tryz.prog 3 #[.slice a code.length cap, .slice z more.length zc] w fun e w' => e = .returned (.bool true) ∧ Below w.heap.size w w' := by
  have HB := hide hB
  have HB' := hide hB'
  have HX := hide hx
  have HZ := hide hz
  have hcm : (code.length : Int) ≤ 9223372036854775807 := by unfold maxLen at hn; omega
  have hmm : (more.length : Int) ≤ 9223372036854775807 := by unfold maxLen at hn'; omega
  clear hB hB' hx hz hn hn'
  by_cases hc : (1048576 : Int) < (code.length : Int)
  · have hc1 : decide ((1048576 : Int) < (code.length : Int)) = true := by rw [decide_eq_true_iff]; exact hc
    go_enter Tryz.func3, Tryz.ntmps3
    go_wp2_with fail
    go_ret
    exact ⟨rfl, Below.refl _ _⟩
  by_cases hm : (1048576 : Int) < (more.length : Int)
  · have hc1 : decide ((1048576 : Int) < (code.length : Int)) = false := by rw [decide_eq_false_iff_not]; exact hc
    have hm1 : decide ((1048576 : Int) < (more.length : Int)) = true := by rw [decide_eq_true_iff]; exact hm
    go_enter Tryz.func3, Tryz.ntmps3
    go_wp2_with fail
    go_ret
    exact ⟨rfl, Below.refl _ _⟩
  have hc1 : decide ((1048576 : Int) < (code.length : Int)) = false := by rw [decide_eq_false_iff_not]; exact hc
  have hm1 : decide ((1048576 : Int) < (more.length : Int)) = false := by rw [decide_eq_false_iff_not]; exact hm
  have hcl : code.length ≤ 1048576 := by omega
  have hml : more.length ≤ 1048576 := by omega
  have hNB : NetBd (netOfCode code) := netP_bd code ⟨0, 0⟩
  clear hc hm hcm hmm
  go_enter Tryz.func3, Tryz.ntmps3
  go_wp2_with fail
  refine (nets_any a cap code _ HB.out hcl HX.out).mono ?_
  rintro e w1 ⟨pa, ja, pcap, jcap, rfl, hPA, hJA, hb1⟩
  have HRI := hide (show netOk (netOfCode code) = (0, 0) from netP_right code ⟨0, 0⟩)
  generalize netOfCode code = N at *
  have HNB := hide hNB
  have hnp := hNB.few
  have hnj := hNB.joints
  have HS9 := hide (show ∀ p ∈ N.pcs, p.name.size ≤ 1048576 from fun p hp => Nat.le_trans (hNB.names p hp) (by decide))
  have HM9 := hide (show ∀ j ∈ N.jts, j.name.size ≤ 1048576 ∧ j.ends.length ≤ 1048576 from fun j hj => ⟨Nat.le_trans (hNB.jends j hj).1 (by decide), Nat.le_trans (hNB.jends j hj).2 (by decide)⟩)
  have HP1 := hide hPA
  have HJ1 := hide hJA
  have HBW := hide hb1
  clear hPA hJA hb1 hNB
  go_wp2_with fail
  have hA2 := (Below.refl w1.heap.size w1).alloc (Nat.le_refl _) (.cells #[.slice pa N.pcs.length pcap, .slice ja N.jts.length jcap] 26)
  have n0 := new_cell w1 #[.slice pa N.pcs.length pcap, .slice ja N.jts.length jcap] 26 0 _ rfl
  have n1 := new_cell w1 #[.slice pa N.pcs.length pcap, .slice ja N.jts.length jcap] 26 1 _ rfl
  have HP := hide (HP1.out.later hA2)
  have HJ := hide (HJ1.out.later hA2)
  have HBW := hide (HBW.out.trans (hA2.mono HBW.out.size))
  clear hA2 HP1 HJ1
  generalize w1.alloc (.cells #[.slice pa N.pcs.length pcap, .slice ja N.jts.length jcap] 26) = w2 at *
  generalize w1.heap.size = bn at *
  refine (aSpot_any pa ja z N pcap jcap zc more _ HNB.out HB'.out hml HP.out (HZ.out.later HBW.out)).mono ?_
  rintro e w3 ⟨rfl, hb3⟩
  have HSA := hide (spot_drawn HNB.out more)
  generalize spotQ N more = q at *
  generalize spotA N more = at1 at *
  generalize spotW N more = wy at *
  have HRW0 : Hid (RW w (w3.alloc (.cells #[.int .i64 q, .int .i64 at1, .int .i64 wy] 29)) bn w3.heap.size pa ja none N pcap jcap q at1 wy []) := by
    have hAl := chn hb3 ((Below.refl w3.heap.size w3).alloc (Nat.le_refl _) (.cells #[.int .i64 q, .int .i64 at1, .int .i64 wy] 29))
    exact ⟨cell_later' hAl n0, cell_later' hAl n1, new_cell w3 #[.int .i64 q, .int .i64 at1, .int .i64 wy] 29 0 _ rfl, new_cell w3 #[.int .i64 q, .int .i64 at1, .int .i64 wy] 29 1 _ rfl, new_cell w3 #[.int .i64 q, .int .i64 at1, .int .i64 wy] 29 2 _ rfl, HP.out.later hAl, HJ.out.later hAl, fun k hk => by simp at hk, HBW.out.trans (hAl.mono HBW.out.size)⟩
  clear hb3 n0 n1 HP HJ HBW
  go_wp2_with fail
  generalize w3.alloc (.cells #[.int .i64 q, .int .i64 at1, .int .i64 wy] 29) = w4 at *
  generalize w3.heap.size = bs at *
  refine (wWhole_any z zc more 3 _ HB'.out hml (by omega) (HZ.out.later HRW0.out.below)).mono ?_
  rintro e w5 ⟨rfl, hw5⟩
  subst hw5
  have hF := wholeP_bd HB'.out 3
  generalize wholeP more 3 = F at *
  obtain ⟨far, hfar⟩ : ∃ far : Int, F.tmod 2000 = far := ⟨_, rfl⟩
  have hfb : 0 ≤ far ∧ far < 2000 := by
    rw [← hfar, Int.tmod_eq_emod_of_nonneg hF.1]
    omega
  have hwf : IntKind.i64.wrap far = far := by rw [IntKind.wrap_i64]; omega
  have n0 := HRW0.out.n0
  have n1 := HRW0.out.n1
  have s0 := HRW0.out.s0
  have s1 := HRW0.out.s1
  have s2 := HRW0.out.s2
  have hltn := cell_lt n0
  have hlts := cell_lt s0
  have HWA := hide (spot_wf HNB.out HSA.out)
  go_wp2_with fail
  try simp only [hfar, hwf]
  refine (implReach_any pa ja N pcap jcap q at1 wy far _ HWA.out (by omega) HS9.out (by omega) HM9.out HRW0.out.pcs HRW0.out.jts).mono ?_
  rintro e w6 ⟨v, rfl, how, hb6⟩
  have HDR := hide (fun (xs : List Int) (t : DRes) (h : DriveA N xs q at1 wy far t) (h0 : t.code = 0) (h1 : reachP N (q, at1, wy) far ≠ []) => reach_drive h h0 h1)
  have HSH := hide (fun (t : Int × Int × Int) (h : t ∈ reachP N (q, at1, wy) far) => reach_short HRI.out h)
  have hps := reachP_few N (q, at1, wy) far
  obtain ⟨ps, hq⟩ : ∃ ps, reachP N (q, at1, wy) far = ps := ⟨_, rfl⟩
  have HQ := hide hq
  rw [hq] at how HDR HSH hps
  obtain ⟨z1, c1, rfl, hPA⟩ := spots_row how
  have HRW6 := hide ((HRW0.out.later hb6).with hPA)
  clear how hb6 hPA hq HRW0 n0 n1 s0 s1 s2 hltn hlts
  have n0 := HRW6.out.n0
  have n1 := HRW6.out.n1
  have s0 := HRW6.out.s0
  have s1 := HRW6.out.s1
  have s2 := HRW6.out.s2
  have hltn := cell_lt n0
  have hlts := cell_lt s0
  go_wp2_with fail
  refine (specReach_any pa ja N pcap jcap q at1 wy far _ (by omega) HS9.out (by omega) HM9.out HRW6.out.pcs HRW6.out.jts).mono ?_
  rintro e w7 ⟨v, rfl, how, hb7⟩
  rw [HQ.out] at how
  obtain ⟨z2, c2, rfl, hPA⟩ := spots_row how
  have HRW7 := hide (HRW6.out.later hb7)
  have HZ2 := hide hPA
  clear how hb7 hPA HRW6 n0 n1 s0 s1 s2 hltn hlts
  have hq3 : ((ps.length : Int) != (ps.length : Int)) = false := by simp
  go_wp2_with fail
  go_loopw [10, 11, 49] (fun _ _ i wr => ∃ (k : Nat), k ≤ ps.length ∧ i = .int .i64 k ∧ Hid (Below w7.heap.size w7 wr)) (fun _ _ i _ => ps.length - (intOf i).toNat)
  case atStart => exact ⟨0, Nat.zero_le _, rfl, Below.refl _ _⟩
  case round =>
    obtain ⟨k, hk, rfl, HBR⟩ := hrel
    rename World => w8
    have HRW8 := hide (HRW7.out.later HBR.out)
    by_cases hlt : k < ps.length
    · have hki : (k : Int) < (ps.length : Int) := by omega
      obtain ⟨b1, o1, rfl, e0, e1, e2⟩ := HRW8.out.row k hlt
      obtain ⟨b2, o2, rfl, g0, g1, g2⟩ := (HZ2.out.later HBR.out) k hlt
      have hSH := HSH.out ps[k] (List.getElem_mem hlt)
      generalize ps[k] = t at *
      obtain ⟨t0, t1, t2⟩ := t
      dsimp only at e0 e1 e2 g0 g1 g2 hSH
      have HSB := hide hSH.1
      obtain ⟨y, hy, hyf⟩ := hSH.2
      have HY := hide hy
      have HWB := hide (spot_wf HNB.out HSB.out)
      have hlt1 := cell_lt e0
      have hlt2 := cell_lt g0
      clear hSH hy
      have HOK := hide (show shortP N HRI.out q at1 wy t0 t1 t2 = some y from HY.out)
      have n0 := HRW8.out.n0
      have n1 := HRW8.out.n1
      have s0 := HRW8.out.s0
      have s1 := HRW8.out.s1
      have s2 := HRW8.out.s2
      have hltn := cell_lt n0
      have hlts := cell_lt s0
      go_upto_region 13 with fail
      go_quiet (fail)
      go_upto_region 15 with fail
      have HRWq := hide (HRW8.out.later (below_drewN (Below.refl w8.heap.size w8) nq))
      have HBRq := hide (HBR.out.trans ((below_drewN (Below.refl w8.heap.size w8) nq).mono HBR.out.size))
      replace n0 := cell_later' (below_drewN (Below.refl w8.heap.size w8) nq) n0
      replace n1 := cell_later' (below_drewN (Below.refl w8.heap.size w8) nq) n1
      replace s0 := cell_later' (below_drewN (Below.refl w8.heap.size w8) nq) s0
      replace s1 := cell_later' (below_drewN (Below.refl w8.heap.size w8) nq) s1
      replace s2 := cell_later' (below_drewN (Below.refl w8.heap.size w8) nq) s2
      replace e0 := cell_later' (below_drewN (Below.refl w8.heap.size w8) nq) e0
      replace e1 := cell_later' (below_drewN (Below.refl w8.heap.size w8) nq) e1
      replace e2 := cell_later' (below_drewN (Below.refl w8.heap.size w8) nq) e2
      clear HRW8 HBR g0 g1 g2 hltn hlts hlt1 hlt2
      generalize w8.drewN nq = w12 at *
      have hltn := cell_lt n0
      have hlts := cell_lt s0
      have hlt1 := cell_lt e0
      have HS0 : Hid (S15 w12 w12 bn bs b1 (o1 + k * 3) (.slice pa N.pcs.length pcap) (.slice ja N.jts.length jcap) q at1 wy t0 t1 t2) := ⟨⟨n0, n1, s0, s1, s2, e0, e1, e2⟩, Below.refl _ _⟩
      have HK1 := hide (keep15 ((Below.refl w12.heap.size w12).drew) HS0.out)
      have HK2 := hide (keep15 (((Below.refl w12.heap.size w12).alloc (Nat.le_refl _) (.cells #[.bool false, .int .i64 0, .slice none 0 0, .slice none 0 0] 37)).drew) HS0.out)
      have HPS := hide (fun wx (h : S15 w12 wx bn bs b1 (o1 + k * 3) (.slice pa N.pcs.length pcap) (.slice ja N.jts.length jcap) q at1 wy t0 t1 t2) => HRWq.out.pcs.later (held15 h))
      have HJS := hide (fun wx (h : S15 w12 wx bn bs b1 (o1 + k * 3) (.slice pa N.pcs.length pcap) (.slice ja N.jts.length jcap) q at1 wy t0 t1 t2) => HRWq.out.jts.later (held15 h))
      have HSC := hide (show ∀ W : World, PcsAt W pa N.pcs → JtsAt W ja N.jts → Calls Tryz.prog 10 #[.agg #[.slice pa N.pcs.length pcap, .slice ja N.jts.length jcap], .agg #[.int .i64 q, .int .i64 at1, .int .i64 wy], .agg #[.int .i64 t0, .int .i64 t1, .int .i64 t2]] W fun e w' => ∃ x0 x1 x2 x3 x4 x5, e = .returned (.agg #[.bool true, .int .i64 y.far, .slice x0 x1 x2, .slice x3 x4 x5]) ∧ Below W.heap.size W w' from fun W h1 h2 => by
        refine (implShortest_any pa ja N pcap jcap q at1 wy t0 t1 t2 _ HRI.out HWA.out HWB.out HSA.out HSB.out (by omega) HS9.out (by omega) HM9.out h1 h2).mono ?_
        rintro e w7 ⟨v, rfl, hPR, hb7⟩
        rw [HOK.out] at hPR
        obtain ⟨z1, c1, y1, d1, rfl, _⟩ := hPR.shape
        exact ⟨_, _, _, _, _, _, rfl, hb7⟩)
      go_cut [11, 49] from 49 to 77 (fun s11 s49 wz => s49 = .int .i64 k ∧ ∃ bq, s11 = .pointer (some ⟨bq, 0, none⟩) ∧ wz.cell? ⟨bq, 0, none⟩ = some (.bool true) ∧ wz.cell? ⟨bq, 1, none⟩ = some (.int .i64 y.far) ∧ Hid (Below w12.heap.size w12 wz))
      case first =>
        clear n0 n1 s0 s1 s2 e0 e1 e2
        go_region_held3 (fun wx => S15 w12 wx bn bs b1 (o1 + k * 3) (.slice pa N.pcs.length pcap) (.slice ja N.jts.length jcap) q at1 wy t0 t1 t2)
          (first
            | (with_reducible exact HK1.out)
            | (with_reducible exact HK2.out)
            | (with_reducible exact HGV.out)
            | (with_reducible exact HGVa.out)
            | (with_reducible exact HGVf.out)
            | (with_reducible exact HGVp.out))
          (first
            | (go_at_call 10; refine (HSC.out _ (HPS.out _ (by assumption)) (HJS.out _ (by assumption))).mono ?_; rintro e wV ⟨x0, x1, x2, x3, x4, x5, rfl, hbV⟩; have HGV : Hid (S15 w12 wV bn bs b1 (o1 + k * 3) (.slice pa N.pcs.length pcap) (.slice ja N.jts.length jcap) q at1 wy t0 t1 t2) := keep15 hbV (by assumption); have HGVa := hide (keep15 ((Below.refl wV.heap.size wV).alloc (Nat.le_refl _) (.cells #[.bool false, .int .i64 0, .slice none 0 0, .slice none 0 0] 37)) HGV.out); have HGVf := hide (keep15 ((Below.refl wV.heap.size wV).alloc (Nat.le_refl _) (.cells #[.bool true, .int .i64 y.far, .slice x0 x1 x2, .slice x3 x4 x5] 37)) HGV.out); have sV : w12.heap.size ≤ wV.heap.size := (held15 HGV.out).size; (first | (with_reducible (have hC : Below w12.drew.heap.size w12.drew wV := hbV)) | (have HZc : Hid (ZeroP wV w12.heap.size) := zeroP_of hbV; have HGVp := hide (mid15 (Nat.le_refl _) hltn hlts hlt1 HGV.out (.bool true) (.int .i64 y.far) (.slice x0 x1 x2) (.slice x3 x4 x5)); obtain ⟨⟨x6, x7, x8, x9⟩, fz, _⟩ := HZc.out; have f0 := fz 0; have f1 := fz 1; have f2 := fz 2; have f3 := fz 3; have hal0 := cell_lt x6; clear fz)); clear hbV))
        all_goals
          first
            | (have hc0 := (HZc.out.put4 (.bool true) (.int .i64 y.far) (.slice x0 x1 x2) (.slice x3 x4 x5)).1; have hc1 := (HZc.out.put4 (.bool true) (.int .i64 y.far) (.slice x0 x1 x2) (.slice x3 x4 x5)).2; have HBP := hide HGVp.out.2.out; go_wp2_with fail; go_meet; (case rel => exact ⟨rfl, _, rfl, hc0, hc1, HBP⟩))
            | (have hc0 := new_cell wV #[.bool true, .int .i64 y.far, .slice x0 x1 x2, .slice x3 x4 x5] 37 0 (.bool true) rfl; have hc1 := new_cell wV #[.bool true, .int .i64 y.far, .slice x0 x1 x2, .slice x3 x4 x5] 37 1 (.int .i64 y.far) rfl; have HBP := hide HGVf.out.2.out; go_wp2_with fail; go_meet; (case rel => exact ⟨rfl, _, rfl, hc0, hc1, HBP⟩))
      case rest =>
        obtain ⟨rfl, bq, rfl, u0, u1, HBQ⟩ := hcut
        rename World => w13
        have hlq := cell_lt u0
        have hgf : decide (y.far > far) = false := by rw [decide_eq_false_iff_not]; omega
        have HBN := hide (HBRq.out.trans (HBQ.out.mono HBRq.out.size))
        clear HS0 HK1 HK2 HPS HJS HSC n0 n1 s0 s1 s2 e0 e1 e2
        go_wp2_with fail
        go_roundw
        case rel => exact ⟨k + 1, by omega, by go_num, HBN⟩
        case measure => simp [intOf]; omega
    · have hke : k = ps.length := by omega
      subst hke
      have HRW9 := hide HRW8.out
      clear HRW8 HRW7 HZ2 HBR HSH
      by_cases h0 : ps.length = 0
      · have q0 : ((ps.length : Int) == 0) = true := by rw [beq_iff_eq]; omega
        clear h0
        go_wp2_with fail
        go_ret
        exact ⟨rfl, HRW9.out.below⟩
      · have q0 : ((ps.length : Int) == 0) = false := by rw [beq_eq_false_iff_ne]; omega
        have HNE := hide (show ps ≠ [] from fun e => h0 (by rw [e]; rfl))
        clear h0
        go_wp2_with fail
        go_loopw [12, 13, 14, 15, 17] (fun kk _ _ _ _ wr => ∃ (k : Nat), k ≤ 5 ∧ kk = .int .i64 k ∧ Hid (Below w8.heap.size w8 wr)) (fun kk _ _ _ _ _ => 5 - (intOf kk).toNat)
        case atStart => exact ⟨0, by omega, rfl, Below.refl _ _⟩
        case round =>
          obtain ⟨k, hk, rfl, HBR⟩ := hrel
          rename World => w10
          have HRX := hide (HRW9.out.later HBR.out)
          clear HRW9
          by_cases hlt : k < 5
          · have hki : (k : Int) < 5 := by omega
            have n0 := HRX.out.n0
            have n1 := HRX.out.n1
            have hltn := cell_lt n0
            have hu0 : IntKind.u8.wrap (byteP more k) = byteP more k := by have := byteP_bd HB'.out k; rw [IntKind.wrap_u8]; omega
            have hu1 : IntKind.u8.wrap (byteP code k) = byteP code k := by have := byteP_bd HB.out k; rw [IntKind.wrap_u8]; omega
            have hw7 : IntKind.i64.wrap (7 * (k : Int)) = 7 * (k : Int) := by rw [IntKind.wrap_i64]; omega
            have hu2 : IntKind.u8.wrap (7 * (k : Int)) = 7 * (k : Int) := by rw [IntKind.wrap_u8]; omega
            have HBY := hide (show Bys [byteP more k, byteP code k, 7 * (k : Int)] from fun x hx => by
              have h1 := byteP_bd HB'.out k
              have h2 := byteP_bd HB.out k
              simp only [List.mem_cons, List.not_mem_nil, or_false] at hx
              rcases hx with rfl | rfl | rfl <;> omega)
            have HN0 : Hid (NS w10 w10 bn (.slice pa N.pcs.length pcap) (.slice ja N.jts.length jcap)) := ⟨⟨n0, n1⟩, Below.refl _ _⟩
            have HK1 := hide (keepNS ((Below.refl w10.heap.size w10).drew) HN0.out)
            have HK2 := hide (keepNS (((Below.refl w10.heap.size w10).alloc (Nat.le_refl _) (.cells #[.int .u8 (byteP more k), .int .u8 (byteP code k), .int .u8 (7 * (k : Int))] 5)).drew) HN0.out)
            have HZS := hide (fun wx (h : NS w10 wx bn (.slice pa N.pcs.length pcap) (.slice ja N.jts.length jcap)) => HZ.out.later (HRX.out.below.trans (h.2.out.mono HRX.out.below.size)))
            have HXS := hide (fun wx (h : NS w10 wx bn (.slice pa N.pcs.length pcap) (.slice ja N.jts.length jcap)) => HX.out.later (HRX.out.below.trans (h.2.out.mono HRX.out.below.size)))
            have HJS := hide (fun wx (h : NS w10 wx bn (.slice pa N.pcs.length pcap) (.slice ja N.jts.length jcap)) => HRX.out.jts.later h.2.out)
            have HYB := hide ((bytes3 w10 (byteP more k) (byteP code k) (7 * (k : Int))).later ((Below.refl _ _).drew))
            have HXN := hide (show ∀ x ∈ liesL N [byteP more k, byteP code k, 7 * (k : Int)], (Lit.int .i64 x).wf = true from fun x hx => by have := liesL_bd N [byteP more k, byteP code k, 7 * (k : Int)] x hx; exact wf_int (by omega) (by omega))
            have hxn : (liesL N [byteP more k, byteP code k, 7 * (k : Int)]).length ≤ 1048576 := by rw [liesL_len]; omega
            go_upto_region 24 with fail
            go_cut [13] from 81 to 122 (fun s13 wz => ∃ zn zm, s13 = .slice zn (liesL N [byteP more k, byteP code k, 7 * (k : Int)]).length zm ∧ Hid (IntsAt wz zn (liesL N [byteP more k, byteP code k, 7 * (k : Int)])) ∧ Hid (Below w10.heap.size w10 wz))
            case first =>
              clear n0 n1
              go_region_held3 (fun wx => NS w10 wx bn (.slice pa N.pcs.length pcap) (.slice ja N.jts.length jcap))
                (first
                  | (with_reducible exact HK1.out)
                  | (with_reducible exact HK2.out)
                  | (with_reducible exact HGL.out))
                (first
                  | (go_at_call 12; with_reducible (refine (wByte_any z zc more k _ HB'.out hml (by omega) (HZS.out _ (by assumption))).mono ?_); rintro e wB ⟨rfl, hwB⟩; subst hwB)
                  | (go_at_call 12; with_reducible (refine (wByte_any a cap code k _ HB.out hcl (by omega) (HXS.out _ (by assumption))).mono ?_); rintro e wB ⟨rfl, hwB⟩; subst hwB)
                  | (go_at_call 11; refine (lies_any pa ja (some ⟨w10.heap.size, 0, none⟩) N pcap jcap 3 [byteP more k, byteP code k, 7 * (k : Int)] _ HNB.out HBY.out (by simp) (HJS.out _ (by assumption)) HYB.out).mono ?_; rintro e w25 ⟨v, rfl, how, hb25⟩; obtain ⟨zn, zm, rfl, hIN⟩ := ints_of_owns how; have HIN := hide hIN; have HGL : Hid (NS w10 w25 bn (.slice pa N.pcs.length pcap) (.slice ja N.jts.length jcap)) := keepNS hb25 (by assumption); clear hIN how hb25))
              all_goals
                have HBL := hide HGL.out.2.out
                go_wp2_with fail
                go_meet
                case rel => exact ⟨zn, zm, rfl, HIN, HBL⟩
            case rest =>
              obtain ⟨zn, zm, rfl, HIN, HBL⟩ := hcut
              rename World => w11
              have HRY := hide (HRX.out.later HBL.out)
              have HBR1 := hide (HBR.out.trans (HBL.out.mono HBR.out.size))
              clear HN0 HK1 HK2 HZS HXS HJS HYB HBL HRX HBR n0 n1 hltn
              generalize liesL N [byteP more k, byteP code k, 7 * (k : Int)] = xs at *
              have n0 := HRY.out.n0
              have n1 := HRY.out.n1
              have s0 := HRY.out.s0
              have s1 := HRY.out.s1
              have s2 := HRY.out.s2
              have hltn := cell_lt n0
              have hlts := cell_lt s0
              go_wp2_with fail
              refine (implDrive_any pa ja zn N pcap jcap zm xs q at1 wy far _ HWA.out (wf_int (by omega) (by omega)) HXN.out (by omega) HS9.out (by omega) HM9.out hxn HRY.out.pcs HRY.out.jts HIN.out).mono ?_
              rintro e w13 ⟨r, hDA, rfl, hb13⟩
              have HDQ := hide (fun h0 => HDR.out xs r hDA h0 HNE.out)
              have hAl := (Below.refl w13.heap.size w13).alloc (Nat.le_refl _) (.cells #[.int .i64 r.code, .int .i64 r.far, .int .i64 r.joint, .int .i64 r.q, .int .i64 r.at', .int .i64 r.way] 42)
              have d0 := new_cell w13 #[.int .i64 r.code, .int .i64 r.far, .int .i64 r.joint, .int .i64 r.q, .int .i64 r.at', .int .i64 r.way] 42 0 _ rfl
              have d3 := new_cell w13 #[.int .i64 r.code, .int .i64 r.far, .int .i64 r.joint, .int .i64 r.q, .int .i64 r.at', .int .i64 r.way] 42 3 _ rfl
              have d4 := new_cell w13 #[.int .i64 r.code, .int .i64 r.far, .int .i64 r.joint, .int .i64 r.q, .int .i64 r.at', .int .i64 r.way] 42 4 _ rfl
              have d5 := new_cell w13 #[.int .i64 r.code, .int .i64 r.far, .int .i64 r.joint, .int .i64 r.q, .int .i64 r.at', .int .i64 r.way] 42 5 _ rfl
              have HRZ := hide (HRY.out.later (chn hb13 hAl))
              have HBR2 := hide (HBR1.out.trans ((chn hb13 hAl).mono HBR1.out.size))
              clear hb13 hAl hDA n0 n1 s0 s1 s2 hltn hlts HRY HBR1
              go_upto_region 26 with fail
              generalize w13.alloc (.cells #[.int .i64 r.code, .int .i64 r.far, .int .i64 r.joint, .int .i64 r.q, .int .i64 r.at', .int .i64 r.way] 42) = w14 at *
              generalize w13.heap.size = bd at *
              have hltd := cell_lt d0
              by_cases hc : r.code = 0
              · have hD := HDQ.out hc
                have HD := hide hD
                have qc : (r.code != 0) = false := by rw [hc]; rfl
                clear hD hc HDQ
                generalize r.q = rq at *
                generalize r.at' = ra at *
                generalize r.way = rw' at *
                go_wp2_with fail
                go_loopw [15, 17, 109] (fun mt _ ix wv => ∃ (p : Nat) (b : Bool), p ≤ ps.length ∧ ix = .int .i64 p ∧ mt = .bool b ∧ Hid (b = (ps.take p).any (fun e => e == (rq, ra, rw'))) ∧ Hid (Below w14.heap.size w14 wv)) (fun _ _ ix _ => ps.length - (intOf ix).toNat)
                case atStart => exact ⟨0, false, Nat.zero_le _, rfl, rfl, (by show false = (ps.take 0).any _; simp), Below.refl _ _⟩
                case round =>
                  obtain ⟨p, b, hp, rfl, rfl, HBB, HBI⟩ := hrel
                  rename World => w16
                  replace d3 := cell_later' HBI.out d3
                  replace d4 := cell_later' HBI.out d4
                  replace d5 := cell_later' HBI.out d5
                  have hz16 := cell_lt d3
                  by_cases hpl : p < ps.length
                  · obtain ⟨b1, o1, rfl, e0, e1, e2⟩ := (HRZ.out.row.later HBI.out) p hpl
                    have hpi : (p : Int) < (ps.length : Int) := by omega
                    have hgq := cell_lt e0
                    have hTS := any_snoc hpl (fun e => e == (rq, ra, rw'))
                    obtain ⟨c0, c1', c2', hcd⟩ : ∃ c0 c1 c2, ps[p] = (c0, c1, c2) := ⟨_, _, _, rfl⟩
                    rw [hcd] at e0 e1 e2 hTS
                    have HTS := hide hTS
                    have HA := hide (HBI.out.alloc HBI.out.size (.cells #[.int .i64 c0, .int .i64 c1', .int .i64 c2'] 29))
                    dsimp only at e0 e1 e2
                    clear hcd hTS
                    cases b
                    · by_cases h1 : c0 = rq
                      · have g1 : (c0 == rq) = true := by rw [beq_iff_eq]; exact h1
                        by_cases h2 : c1' = ra
                        · have g2 : (c1' == ra) = true := by rw [beq_iff_eq]; exact h2
                          by_cases h3 : c2' = rw'
                          · have g3 : (c2' == rw') = true := by rw [beq_iff_eq]; exact h3
                            have HY : Hid (true = (ps.take (p + 1)).any (fun e => e == (rq, ra, rw'))) := by show _ = _; rw [HTS.out, h1, h2, h3]; simp
                            clear h1 h2 h3
                            go_wp2_with fail
                            go_roundw
                            case rel => exact ⟨p + 1, true, by omega, by go_num, rfl, HY, HA⟩
                            case measure => simp [intOf]; omega
                          · have g3 : (c2' == rw') = false := by rw [beq_eq_false_iff_ne]; exact h3
                            have HY : Hid (false = (ps.take (p + 1)).any (fun e => e == (rq, ra, rw'))) := by show _ = _; rw [HTS.out, ← HBB.out]; simp [h3]
                            clear h1 h2 h3
                            go_wp2_with fail
                            go_roundw
                            case rel => exact ⟨p + 1, false, by omega, by go_num, rfl, HY, HA⟩
                            case measure => simp [intOf]; omega
                        · have g2 : (c1' == ra) = false := by rw [beq_eq_false_iff_ne]; exact h2
                          have HY : Hid (false = (ps.take (p + 1)).any (fun e => e == (rq, ra, rw'))) := by show _ = _; rw [HTS.out, ← HBB.out]; simp [h2]
                          clear h1 h2
                          go_wp2_with fail
                          go_roundw
                          case rel => exact ⟨p + 1, false, by omega, by go_num, rfl, HY, HA⟩
                          case measure => simp [intOf]; omega
                      · have g1 : (c0 == rq) = false := by rw [beq_eq_false_iff_ne]; exact h1
                        have HY : Hid (false = (ps.take (p + 1)).any (fun e => e == (rq, ra, rw'))) := by show _ = _; rw [HTS.out, ← HBB.out]; simp [h1]
                        clear h1
                        go_wp2_with fail
                        go_roundw
                        case rel => exact ⟨p + 1, false, by omega, by go_num, rfl, HY, HA⟩
                        case measure => simp [intOf]; omega
                    · have HY : Hid (true = (ps.take (p + 1)).any (fun e => e == (rq, ra, rw'))) := by show _ = _; rw [HTS.out, ← HBB.out]; rfl
                      go_wp2_with fail
                      go_roundw
                      case rel => exact ⟨p + 1, true, by omega, by go_num, rfl, HY, HA⟩
                      case measure => simp [intOf]; omega
                  · obtain rfl : p = ps.length := by omega
                    have hBB := HBB.out
                    rw [List.take_length] at hBB
                    have HBN := hide (HBR2.out.trans (HBI.out.mono HBR2.out.size))
                    cases b
                    · exact absurd HD.out (any_not hBB)
                    · clear hBB HBB
                      go_wp2_with fail
                      go_roundw
                      case rel => exact ⟨k + 1, by omega, by go_num, HBN⟩
                      case measure => simp [intOf]; omega
              · have qc : (r.code != 0) = true := by rw [bne_iff_ne]; exact hc
                clear hc HDQ
                go_wp2_with fail
                go_roundw
                case rel => exact ⟨k + 1, by omega, by go_num, HBR2⟩
                case measure => simp [intOf]; omega
          · have hke : k = 5 := by omega
            subst hke
            go_wp2_with fail
            go_ret
            exact ⟨rfl, HRX.out.below⟩
end Go.Proofs.YtijdigdcmjdooaaGreat

/- Bytes that came in. Own work. -/
namespace Go.Proofs.YtijdigdcmjdooaaGreat
open Go.RowKit Go.Joins Go.Deep Go.WideShapes Go.ChangeShapes
set_option maxRecDepth 100000

theorem cellsU8 : Tryz.prog.cellsOf 5 = 1 := by kernel_rfl
theorem slice_cells3 {P : Program} {w : World} {r : Reach} {b0 : Nat} {t e : TypeId} {v : Value} (ht : P.underlying t = some (.slice e)) (hv : Value.okWide P w r b0 t v) : v.cells = #[v] := by
  obtain ⟨a, len, cap, rfl⟩ := okWide_slice ht hv
  rfl

theorem bytes_of_trod {H : Type} {enc : TypeId × Value → H} {w : World} {spare : Nat → Bool} {held : Bool} {v : Value} {d : DataW H} {p : List MemPlace} (hone : v.cells = #[v]) (h : DataW.Trod enc Tryz.prog w 0 spare held 22 v d p) :
    ∃ (a : Option Addr) (cap : Nat) (xs : List Int), v = .slice a xs.length cap ∧ BytesAt w a xs ∧ xs.length ≤ maxLen ∧ Bys xs := by
  obtain ⟨fuel, hm⟩ := h
  rcases open_slice Tryz.underlying22 hm with ⟨hv, _⟩ | ⟨a, len, cap, m, n, D, Pl, hv, _, hlc, hcm, hm', _, hall⟩
  · rw [hone] at hv
    have : v = .slice none 0 0 := by simpa using hv
    subst this
    exact ⟨none, 0, [], rfl, fun k hk => by simp at hk, by simp, fun x hx => by simp at hx⟩
  · rw [hone] at hv
    have : v = .slice (some a) len cap := by simpa using hv
    subst this
    have hlm : len ≤ m := by rw [hm']; split <;> omega
    have hex : ∀ i, i < len → ∃ x : Int, w.cell? ((a.add (i * 1)).add 0) = some (.int .u8 x) ∧ (0 ≤ x ∧ x < 256) := by
      intro i hi
      obtain ⟨cs', hc, ht⟩ := hall i (by omega)
      rw [cellsU8] at hc
      obtain ⟨_, hlen, hcell⟩ := World.cells?_some hc
      obtain ⟨x0, e0, _, w0⟩ := DataW.trod_int Tryz.underlying5 ht
      subst e0
      refine ⟨x0, hcell 0 (by omega), ?_⟩
      simp only [Lit.wf, IntKind.min, IntKind.max, IntKind.bits, IntKind.signed, Bool.and_eq_true] at w0
      simp at w0
      omega
    obtain ⟨xs, hl, hxs⟩ := list_of len hex
    refine ⟨some a, cap, xs, by rw [hl], ?_, by omega, ?_⟩
    · intro k hk
      obtain ⟨b, off, spot⟩ := a
      have h00 := (hxs 0 (by omega)).1
      have hspot : spot = none := by simpa [Addr.add] using World.cell?_spot h00
      subst hspot
      have hk2 := (hxs k hk).1
      simp only [add_plain, Nat.mul_one, Nat.add_zero] at hk2
      exact ⟨b, off, rfl, hk2⟩
    · intro x hx
      obtain ⟨k, hk, rfl⟩ := List.getElem_of_mem hx
      exact (hxs k hk).2
end Go.Proofs.YtijdigdcmjdooaaGreat

/- FnReach. Own work. -/
namespace Go.Proofs.YtijdigdcmjdooaaGreat
open Go.ChangeShapes Go.WideShapes Go.ChangeAt Go.RowKit Go.Joins

theorem own_knob : ownKnob Tryz.prog.godebug = none := by kernel_rfl

set_option maxRecDepth 100000 in
theorem fnReach_lifted (os : Os) (started : os.Started) (H : Type) (enc : TypeId × Value → H) :
    ReturnsInHanded {} Tryz.checked os 3 .any (Rows.fnReachSpec.pre6 enc Tryz.prog Tryz.f3 Rows.fnReachRow.domain false) (Rows.fnReachSpec.post enc Tryz.prog Tryz.f3 false true false false) := by
  refine returnsInHanded_of_change (C := Tryz.checked) own_knob started (by kernel_rfl) Tryz.func3
    (ChangeSpec.witness6 (enc := enc) (C := Tryz.checked) false ⟨#[], #[.slice none 0 0, .slice none 0 0], []⟩ 8 (by kernel_rfl) (by kernel_rfl) (by kernel_rfl) (by kernel_rfl)) ?_
  intro W base args ds gs before hval0 hW hcnd _
  have hval : ∀ (j : Nat) t v, Tryz.f3.params[j]? = some t → args[j]? = some v → Value.okWide Tryz.prog W .any base t v := hval0
  have hW' := hW
  obtain ⟨p, q, hA0, hV, rfl, hfz, hnd⟩ := hW
  have hA : DataW.TrodAll enc Tryz.prog W 0 (fun _ => true) true Tryz.f3.params.toList args.toList ds p := hA0
  rw [Tryz.params3] at hA hval
  obtain ⟨v0, vs0, d0, ds0, p0, q0, hargs, rfl, rfl, h0, r0⟩ := trodAll_cons hA
  obtain ⟨v1, vs1, d1, ds1, p1, q1, rfl, rfl, rfl, h1, r1⟩ := trodAll_cons r0
  obtain ⟨rfl, rfl, rfl⟩ := trodAll_nil r1
  obtain rfl : args = #[v0, v1] := by cases args; simp_all
  obtain ⟨rfl, rfl⟩ := trodVars_none hV
  have lt0 : ∀ x ∈ p0, x.block < W.heap.size := by obtain ⟨m, hm⟩ := h0; exact DataW.trod_lt m _ _ _ hm
  have lt1 : ∀ x ∈ p1, x.block < W.heap.size := by obtain ⟨m, hm⟩ := h1; exact DataW.trod_lt m _ _ _ hm
  obtain ⟨a, cap, code, rfl, hx, hn, hB⟩ := bytes_of_trod (slice_cells3 Tryz.underlying22 (hval 0 22 v0 rfl rfl)) h0
  obtain ⟨z, zc, more, rfl, hz, hn', hB'⟩ := bytes_of_trod (slice_cells3 Tryz.underlying22 (hval 1 22 v1 rfl rfl)) h1
  clear hA0 hval0
  refine (fnReach_drawn a z cap zc code more W hB hB' hn hn' hx hz).mono fun e W' ⟨he, bel⟩ => ?_
  subst he
  exact ⟨_, rfl, _, _, _, [], _, [], hW', trodAll_mk1 (shut_bool Tryz.underlying4 _), (trodAll_cons_mk (Below.trod Tryz.laidOut (by kernel_rfl) (of_decide_eq_true (by kernel_rfl)) h0 bel lt0) (trodAll_cons_mk (Below.trod Tryz.laidOut (by kernel_rfl) (of_decide_eq_true (by kernel_rfl)) h1 bel lt1) trodAll_mk0)), rfl, bel.frame _, fun h => by cases h⟩

theorem fnReach_over : Rows.fnReachRow.holds Tryz.pinned (OpenSpec.ofChange Rows.fnReachSpec) :=
  OpenClaim.holds_of_wide 3 Tryz.f3 rfl rfl rfl rfl rfl rfl rfl ⟨rfl, rfl, rfl, rfl, rfl⟩ rfl rfl rfl rfl rfl (by kernel_rfl) Tryz.func3 (by kernel_rfl)
    (of_decide_eq_true (by kernel_rfl)) (by unfold Func.isWrapper; first | (rw [if_pos (by decide +kernel)]; kernel_rfl) | (rw [if_neg (by decide +kernel)]; exact ⟨rfl, rfl⟩))
    (fun os started H enc _ => fnReach_lifted os started H enc)
end Go.Proofs.YtijdigdcmjdooaaGreat

/- FnReach, proved. Own work. -/
namespace Go.Proofs.YtijdigdcmjdooaaGreat
theorem fnReach_holds : Rows.FnReachSaid := fnReach_over
end Go.Proofs.YtijdigdcmjdooaaGreat
