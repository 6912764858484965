/- impl.Shortest; written by gen_shb.py. Own work. -/
import Derived.Test.YtldafgbhjpfboaaGreatShA
import Derived.Test.YtldafgbhjpfboaaGreatMxBA
import Derived.Test.YtldafgbhjpfboaaGreatMxAJ
import Derived.Test.YtldafgbhjpfboaaGreatWaE
import Derived.Test.YtldafgbhjpfboaaGreatMxAI
import Derived.Deep.RegionHeld3
import Derived.Test.YtldafgbhjpfboaaGreatMxAV
namespace Go.Proofs.YtldafgbhjpfboaaGreat
open Go.RowKit Go.Sort
set_option maxHeartbeats 8000000
set_option maxRecDepth 100000

/-- What is read of three boxes. -/
abbrev SS (W wx : World) (bN bA bB : Nat) (v0 v1 : Value) (q a wy q' a' wy' : Int) : Prop :=
  (wx.cell? ⟨bN, 0, none⟩ = some v0 ∧ wx.cell? ⟨bN, 1, none⟩ = some v1 ∧ wx.cell? ⟨bA, 0, none⟩ = some (.int .i64 q) ∧ wx.cell? ⟨bA, 1, none⟩ = some (.int .i64 a) ∧ wx.cell? ⟨bA, 2, none⟩ = some (.int .i64 wy) ∧ wx.cell? ⟨bB, 0, none⟩ = some (.int .i64 q') ∧ wx.cell? ⟨bB, 1, none⟩ = some (.int .i64 a') ∧ wx.cell? ⟨bB, 2, none⟩ = some (.int .i64 wy')) ∧ Hid (Below W.heap.size W wx)
section
variable {W w2 w3 : World} {bN bA bB : Nat} {v0 v1 : Value} {q a wy q' a' wy' : Int}
theorem heldS (h : SS W w2 bN bA bB v0 v1 q a wy q' a' wy') : Below W.heap.size W w2 := h.2.out
theorem keepS (hb : Below w2.heap.size w2 w3) (h : SS W w2 bN bA bB v0 v1 q a wy q' a' wy') : SS W w3 bN bA bB v0 v1 q a wy q' a' wy' := by
  obtain ⟨⟨h0, h1, h3, h4, h5, h6, h7, h8⟩, hw⟩ := h
  exact ⟨⟨cell_later' hb h0, cell_later' hb h1, cell_later' hb h3, cell_later' hb h4, cell_later' hb h5, cell_later' hb h6, cell_later' hb h7, cell_later' hb h8⟩, hw.out.trans (hb.mono hw.out.size)⟩
theorem rebaseS (h : SS W w2 bN bA bB v0 v1 q a wy q' a' wy') : SS w2 w2 bN bA bB v0 v1 q a wy q' a' wy' := ⟨h.1, Below.refl _ _⟩
theorem putS {b : Nat} (hb : W.heap.size ≤ b) (hL : bN < W.heap.size) (hA : bA < W.heap.size) (hB : bB < W.heap.size) (h : SS W w2 bN bA bB v0 v1 q a wy q' a' wy') (x0 x1 : Value) : SS W ((w2.setCell ⟨b, 0, none⟩ x0).setCell ⟨b, 1, none⟩ x1) bN bA bB v0 v1 q a wy q' a' wy' := by
  have hm : Mid b (b + 1) w2 ((w2.setCell ⟨b, 0, none⟩ x0).setCell ⟨b, 1, none⟩ x1) := ((Mid.refl _ _ _).setCell (Nat.le_refl _) (by omega) _).setCell (Nat.le_refl _) (by omega) _
  obtain ⟨⟨h0, h1, h3, h4, h5, h6, h7, h8⟩, hw⟩ := h
  exact ⟨⟨hm.cell (.inl (by omega)) h0, hm.cell (.inl (by omega)) h1, hm.cell (.inl (by omega)) h3, hm.cell (.inl (by omega)) h4, hm.cell (.inl (by omega)) h5, hm.cell (.inl (by omega)) h6, hm.cell (.inl (by omega)) h7, hm.cell (.inl (by omega)) h8⟩, (hw.out.setCell hb _).setCell hb _⟩
end
/-- What is read of a net's box and a trail's. -/
abbrev SR (W wx : World) (bN bR : Nat) (v0 v1 : Value) (far : Int) (sv : Value) : Prop :=
  (wx.cell? ⟨bN, 0, none⟩ = some v0 ∧ wx.cell? ⟨bN, 1, none⟩ = some v1 ∧ wx.cell? ⟨bR, 0, none⟩ = some (.int .i64 far) ∧ wx.cell? ⟨bR, 1, none⟩ = some sv) ∧ Hid (Below W.heap.size W wx)
theorem keepR {W w2 w3 : World} {bN bR : Nat} {v0 v1 : Value} {far : Int} {sv : Value} (hb : Below w2.heap.size w2 w3) (h : SR W w2 bN bR v0 v1 far sv) : SR W w3 bN bR v0 v1 far sv := by
  obtain ⟨⟨h0, h1, h2, h3⟩, hw⟩ := h
  exact ⟨⟨cell_later' hb h0, cell_later' hb h1, cell_later' hb h2, cell_later' hb h3⟩, hw.out.trans (hb.mono hw.out.size)⟩
theorem heldR {W w2 : World} {bN bR : Nat} {v0 v1 : Value} {far : Int} {sv : Value} (h : SR W w2 bN bR v0 v1 far sv) : Below W.heap.size W w2 := h.2.out
theorem implSpotOk_q (a a' : Option Addr) (N : Nt) (cap cap' : Nat) (q at' way : Int) (w : World) {r : Bool} (hr : spotOkP N q at' way = r) (hwf : Wf3 q at' way) (hn : N.pcs.length ≤ 1048576) (hs : ∀ p ∈ N.pcs, p.name.size ≤ 1048576) (hl : N.jts.length ≤ 1048576) (hm : ∀ j ∈ N.jts, j.name.size ≤ 1048576 ∧ j.ends.length ≤ 1048576) (hp : PcsAt w a N.pcs) (hj : JtsAt w a' N.jts) (d : Nat) (os : Array Obj) :
    Calls Tryz.prog 20 #[.agg #[.slice a N.pcs.length cap, .slice a' N.jts.length cap'], .agg #[.int .i64 q, .int .i64 at', .int .i64 way]] (grow (redrawn w d) os) fun e w'' =>
    e = .returned (.bool r) ∧ ∃ p : Regrown, w'' = grow (redrawn w p.d) p.os :=
  Calls.regrown_of ((implSpotOk_any a a' N cap cap' q at' way _ hwf hn hs hl hm (hp.later (below_regrown w d os)) (hj.later (below_regrown w d os))).mono fun _ _ h' => ⟨by rw [h'.1, hr], h'.2⟩)
theorem implShortest_any (a a' : Option Addr) (N : Nt) (cap cap' : Nat) (q at1 wy q' at2 wy' : Int) (w : World) (hright : netOk N = (0, 0)) (hw1 : Wf3 q at1 wy) (hw2 : Wf3 q' at2 wy') (hs : spotP N q at1 wy = true) (hs' : spotP N q' at2 wy' = true) (hn : N.pcs.length ≤ 100) (hsz : ∀ p ∈ N.pcs, p.name.size ≤ 1048576) (hl : N.jts.length ≤ 1048576) (hm : ∀ j ∈ N.jts, j.name.size ≤ 1048576 ∧ j.ends.length ≤ 1048576) (hP : PcsAt w a N.pcs) (hJ : JtsAt w a' N.jts) :
    Calls Tryz.prog 6 #[.agg #[.slice a N.pcs.length cap, .slice a' N.jts.length cap'], .agg #[.int .i64 q, .int .i64 at1, .int .i64 wy], .agg #[.int .i64 q', .int .i64 at2, .int .i64 wy']] w fun e w' =>
    ∃ v, e = .returned v ∧ PathR N (shortP N hright q at1 wy q' at2 wy') v w' ∧ Below w.heap.size w w' := by
  have HP := hide hP
  have HJ := hide hJ
  have HR := hide hright
  have HS := hide hs
  have HS' := hide hs'
  have HM := hide hm
  have HME := hide (fun j (hj : j ∈ N.jts) => (HM.out j hj).2)
  have HW := hide (ends_wf (show N.pcs.length ≤ 1048576 by omega) (right_facts hright).2.2.1)
  have HSZ := hide hsz
  have HWA := hide hw1
  have HWB := hide hw2
  have HQ1 := hide (show spotOkP N q at1 wy = true by simp [spotOkP, hright, hs])
  have HQ2 := hide (show spotOkP N q' at2 wy' = true by simp [spotOkP, hright, hs'])
  clear hP hJ hm hsz hw1 hw2 hs hs'
  go_enter Tryz.func6, Tryz.ntmps6
  have HS4 : Hid (SS ((((w.alloc (.cells #[.slice a N.pcs.length cap, .slice a' N.jts.length cap'] 26)).alloc (.cells #[.int .i64 q, .int .i64 at1, .int .i64 wy] 29)).alloc (.cells #[.int .i64 q', .int .i64 at2, .int .i64 wy'] 29)).alloc (.cells #[.bool false, .int .i64 0, .slice none 0 0, .slice none 0 0] 34)) ((((w.alloc (.cells #[.slice a N.pcs.length cap, .slice a' N.jts.length cap'] 26)).alloc (.cells #[.int .i64 q, .int .i64 at1, .int .i64 wy] 29)).alloc (.cells #[.int .i64 q', .int .i64 at2, .int .i64 wy'] 29)).alloc (.cells #[.bool false, .int .i64 0, .slice none 0 0, .slice none 0 0] 34)) w.heap.size (w.heap.size + 1) (w.heap.size + 1 + 1) (.slice a N.pcs.length cap) (.slice a' N.jts.length cap') q at1 wy q' at2 wy') :=
    ⟨⟨by simp [go_sem], by simp [go_sem], by simp [go_sem], by simp [go_sem], by simp [go_sem], by simp [go_sem], by simp [go_sem], by simp [go_sem]⟩, Below.refl _ _⟩
  have HZ4 : Hid (ZeroP ((((w.alloc (.cells #[.slice a N.pcs.length cap, .slice a' N.jts.length cap'] 26)).alloc (.cells #[.int .i64 q, .int .i64 at1, .int .i64 wy] 29)).alloc (.cells #[.int .i64 q', .int .i64 at2, .int .i64 wy'] 29)).alloc (.cells #[.bool false, .int .i64 0, .slice none 0 0, .slice none 0 0] 34)) (w.heap.size + 1 + 1 + 1)) := by
    show ZeroP _ _
    have h := ZeroP.new (((w.alloc (.cells #[.slice a N.pcs.length cap, .slice a' N.jts.length cap'] 26)).alloc (.cells #[.int .i64 q, .int .i64 at1, .int .i64 wy] 29)).alloc (.cells #[.int .i64 q', .int .i64 at2, .int .i64 wy'] 29))
    simpa only [World.size_alloc] using h
  have HB4 : Hid (Below w.heap.size w ((((w.alloc (.cells #[.slice a N.pcs.length cap, .slice a' N.jts.length cap'] 26)).alloc (.cells #[.int .i64 q, .int .i64 at1, .int .i64 wy] 29)).alloc (.cells #[.int .i64 q', .int .i64 at2, .int .i64 wy'] 29)).alloc (.cells #[.bool false, .int .i64 0, .slice none 0 0, .slice none 0 0] 34))) := (((((Below.refl _ _).alloc (Nat.le_refl _) _).alloc (by simp) _).alloc (by simp; omega) _).alloc (by simp; omega) _)
  go_upto_region 1 with fail
  generalize ((((w.alloc (.cells #[.slice a N.pcs.length cap, .slice a' N.jts.length cap'] 26)).alloc (.cells #[.int .i64 q, .int .i64 at1, .int .i64 wy] 29)).alloc (.cells #[.int .i64 q', .int .i64 at2, .int .i64 wy'] 29)).alloc (.cells #[.bool false, .int .i64 0, .slice none 0 0, .slice none 0 0] 34)) = w4 at *
  have hz4 := cell_lt HZ4.out.1.1
  obtain ⟨⟨n0, n1, a0, a1, a2, b0, b1, b2⟩, _⟩ := HS4.out
  go_wp2_with fail
  refine (implSpotOk_any a a' N cap cap' q at1 wy _ HWA.out (by omega) HSZ.out hl HM.out (HP.out.later HB4.out) (HJ.out.later HB4.out)).mono ?_
  rintro e w5 ⟨rfl, hb5⟩
  rw [HQ1.out]
  have HS5 := hide (rebaseS (keepS hb5 HS4.out))
  have HZ5 := hide (HZ4.out.later hb5)
  have HB5 := hide (HB4.out.trans (hb5.mono HB4.out.size))
  have hs5 := hb5.size
  clear HS4 HZ4 HB4 hb5 n0 n1 a0 a1 a2 b0 b1 b2
  obtain ⟨⟨n0, n1, a0, a1, a2, b0, b1, b2⟩, _⟩ := HS5.out
  go_wp2_with fail
  refine (implSpotOk_any a a' N cap cap' q' at2 wy' _ HWB.out (by omega) HSZ.out hl HM.out (HP.out.later HB5.out) (HJ.out.later HB5.out)).mono ?_
  rintro e w6 ⟨rfl, hb6⟩
  rw [HQ2.out]
  have HS6 := hide (rebaseS (keepS hb6 HS5.out))
  have HZ6 := hide (HZ5.out.later hb6)
  have HB6 := hide (HB5.out.trans (hb6.mono HB5.out.size))
  have hs6 := hb6.size
  clear HS5 HZ5 HB5 hb6 n0 n1 a0 a1 a2 b0 b1 b2
  go_upto_region 3 with fail
  have h5L : w.heap.size < w6.heap.size := by omega
  have h5A : w.heap.size + 1 < w6.heap.size := by omega
  have h5B : w.heap.size + 1 + 1 < w6.heap.size := by omega
  have HK1 := hide (keepS ((Below.refl w6.heap.size w6).drew) HS6.out)
  have HK2 := hide (keepS (((Below.refl w6.heap.size w6).alloc (Nat.le_refl _) (.cells #[.int .i64 0, .slice none 0 0] 62)).drew) HS6.out)
  have HPS := hide (fun wx (h : SS w6 wx w.heap.size (w.heap.size + 1) (w.heap.size + 1 + 1) (.slice a N.pcs.length cap) (.slice a' N.jts.length cap') q at1 wy q' at2 wy') => HP.out.later (HB6.out.trans ((heldS h).mono HB6.out.size)))
  have HJS := hide (fun wx (h : SS w6 wx w.heap.size (w.heap.size + 1) (w.heap.size + 1 + 1) (.slice a N.pcs.length cap) (.slice a' N.jts.length cap') q at1 wy q' at2 wy') => HJ.out.later (HB6.out.trans ((heldS h).mono HB6.out.size)))
  go_cut [7, 8] from 9 to 39 (fun s7 s8 wz => ∃ bR far z nn c ok, s7 = .pointer (some ⟨bR, 0, none⟩) ∧ s8 = .bool ok ∧ wz.cell? ⟨bR, 0, none⟩ = some (.int .i64 far) ∧ wz.cell? ⟨bR, 1, none⟩ = some (.slice z nn c) ∧ Hid (FoundO (shortP N hright q at1 wy q' at2 wy') wz far z nn ok) ∧ Hid (Below w6.heap.size w6 wz))
  case first =>
    go_region_held3 (fun wx => SS w6 wx w.heap.size (w.heap.size + 1) (w.heap.size + 1 + 1) (.slice a N.pcs.length cap) (.slice a' N.jts.length cap') q at1 wy q' at2 wy')
      (first
        | (with_reducible exact HK1.out)
        | (with_reducible exact HK2.out)
        | (with_reducible exact HGU.out)
        | (with_reducible exact HGUa.out)
        | (with_reducible exact HGUf.out)
        | (with_reducible exact HGUp.out)
        | (with_reducible exact HGT.out)
        | (with_reducible exact HGTa.out))
      (first
        | (go_at_call 21; refine (layoutOf_any a a' N cap cap' _ hl HME.out HW.out (HJS.out _ (by assumption))).mono ?_; rintro e wT ⟨m, n, rfl, hSE, _, hbT⟩; have HGT : Hid (SS w6 wT w.heap.size (w.heap.size + 1) (w.heap.size + 1 + 1) (.slice a N.pcs.length cap) (.slice a' N.jts.length cap') q at1 wy q' at2 wy') := keepS hbT (by assumption); have HGTa := hide (keepS ((Below.refl wT.heap.size wT).alloc (Nat.le_refl _) (.cells #[.int .i64 0, .slice none 0 0] 62)) HGT.out); have sT : w6.heap.size ≤ wT.heap.size := (heldS HGT.out).size; (first | (with_reducible (have hC : Below w6.drew.heap.size w6.drew wT := hbT)) | (have HZT : Hid (ZeroT wT w6.heap.size) := zeroT_of hbT)); have HSE := hide hSE; have HSEa := hide (hSE.of_block (Below.heap_alloc wT (.cells #[.int .i64 0, .slice none 0 0] 62) m hSE.lt)); clear hSE hbT)
        | (go_at_call 22; refine (trailTo_any a a' N cap cap' m n q at1 wy q' at2 wy' _ HR.out HS.out HS'.out (HPS.out _ (by assumption)) (HJS.out _ (by assumption)) (by first | (with_reducible exact HSE.out) | (with_reducible exact HSEa.out))).mono ?_; rintro e wU ⟨far, z, nn, c, ok, rfl, hFU, hbU⟩; have HGU : Hid (SS w6 wU w.heap.size (w.heap.size + 1) (w.heap.size + 1 + 1) (.slice a N.pcs.length cap) (.slice a' N.jts.length cap') q at1 wy q' at2 wy') := keepS hbU (by assumption); have HGUa := hide (keepS ((Below.refl wU.heap.size wU).alloc (Nat.le_refl _) (.cells #[.int .i64 0, .slice none 0 0] 62)) HGU.out); have HGUf := hide (keepS ((Below.refl wU.heap.size wU).alloc (Nat.le_refl _) (.cells #[.int .i64 far, .slice z nn c] 62)) HGU.out); have sU : w6.heap.size ≤ wU.heap.size := (heldS HGU.out).size; (first | ((with_reducible (have hD : Below wT.heap.size wT wU := hbU)); (first | (have HZU := hide (HZT.out.later hbU); have HGUp := hide (putS (b := w6.heap.size) (by omega) h5L h5A h5B HGU.out (.int .i64 far) (.slice z nn c)); obtain ⟨⟨a0, a1⟩, fz, _⟩ := HZU.out; have f0 := fz 0; have f1 := fz 1; have hal0 := cell_lt a0; clear fz) | skip)) | (have HZU : Hid (ZeroT wU wT.heap.size) := zeroT_of' hbU; have HGUp := hide (putS (b := wT.heap.size) (by omega) h5L h5A h5B HGU.out (.int .i64 far) (.slice z nn c)); obtain ⟨⟨a0, a1⟩, fz, _⟩ := HZU.out; have f0 := fz 0; have f1 := fz 1; have hal0 := cell_lt a0; clear fz)); have HFU := hide hFU; clear hFU hbU))
    all_goals
      first
        | (have HFP := hide (HFU.out.put HZU.out (.int .i64 far) (.slice z nn c)); have hcp := inT_put HZU.out (.int .i64 far) (.slice z nn c); have hcp0 := inT_put0 HZU.out (.int .i64 far) (.slice z nn c); have HBP := hide (HZU.out.below (heldS HGU.out) (by omega) (.int .i64 far) (.slice z nn c)); go_wp2_with fail; go_meet; (case rel => exact ⟨_, far, z, nn, c, ok, rfl, rfl, hcp0, hcp, HFP, HBP⟩))
        | (have hAT := (Below.refl wU.heap.size wU).alloc (Nat.le_refl _) (.cells #[.int .i64 far, .slice z nn c] 62); have HFP := hide (HFU.out.later hAT); have hcp0 := new_cell wU #[.int .i64 far, .slice z nn c] 62 0 (.int .i64 far) rfl; have hcp := new_cell wU #[.int .i64 far, .slice z nn c] 62 1 (.slice z nn c) rfl; have HBP := hide ((heldS HGU.out).trans (hAT.mono sU)); go_wp2_with fail; go_meet; (case rel => exact ⟨_, far, z, nn, c, ok, rfl, rfl, hcp0, hcp, HFP, HBP⟩))
  case rest =>
    obtain ⟨bR, far, z, nn, c, ok, rfl, rfl, r0, r1, HFO, HB9⟩ := hcut
    rename World => w9
    have HZ9 := hide (HZ6.out.later HB9.out)
    have n0 := cell_later' HB9.out HS6.out.1.1
    have n1 := cell_later' HB9.out HS6.out.1.2.1
    have HB9' := hide (HB6.out.trans (HB9.out.mono HB6.out.size))
    have hs9 := HB9.out.size
    clear HS6 HZ6 HB9 HK1 HK2 HPS HJS
    cases ok with
    | false =>
      have HN := hide (show shortP N hright q at1 wy q' at2 wy' = none by
        rcases HFO.out with ⟨h, _⟩ | ⟨_, _, h, _⟩
        · exact h
        · cases h)
      obtain ⟨⟨z0, z1, z2, z3⟩, fz, hT⟩ := HZ9.out
      have f0 := fz 0
      have f1 := fz 1
      have f2 := fz 2
      have f3 := fz 3
      have hz6 := cell_lt z0
      have HB7 := hide (below4 (b := w.heap.size + 1 + 1 + 1) HB9'.out (by omega) (.bool false) (.int .i64 0) (.slice none 0 0) (.slice none 0 0))
      clear fz hT r0 r1 n0 n1
      go_wp2_with fail
      exact bodyPost_ret (v := .agg #[.bool false, .int .i64 0, .slice none 0 0, .slice none 0 0]) (by simp [results, Tryz.results6, go_sem, z0, z1, z2, z3]) rfl ⟨_, rfl, .inl ⟨HN.out, rfl⟩, HB7.out⟩
    | true =>
      obtain ⟨y, hy, _, hfy, hny, hSY⟩ : ∃ y, shortP N hright q at1 wy q' at2 wy' = some y ∧ true = true ∧ far = y.far ∧ nn = y.ss.length ∧ StRow w9 z y.ss := by
        rcases HFO.out with ⟨_, h⟩ | h
        · cases h
        · exact h
      subst hny
      subst hfy
      have hxl : y.ss.length ≤ 1048576 := by
        have h := (short_left HS.out HS'.out hy).2.2.2.2.2.1
        omega
      have HY := hide hy
      have HSY := hide hSY
      clear hy hSY HFO
      go_upto_region 6 with fail
      have HK1 : Hid (SR w9 w9.drew w.heap.size bR (.slice a N.pcs.length cap) (.slice a' N.jts.length cap') y.far (.slice z y.ss.length c)) := keepR ((Below.refl w9.heap.size w9).drew) ⟨⟨n0, n1, r0, r1⟩, Below.refl _ _⟩
      clear n0 n1 r0 r1
      refine wp_region_K (S := fun wx => SR w9 wx w.heap.size bR (.slice a N.pcs.length cap) (.slice a' N.jts.length cap') y.far (.slice z y.ss.length c)) (k := 9) (by kernel_rfl) ?_
      refine wpAnyK_take (i := 0) (v := ?_) rfl rfl (by kernel_rfl) (by decide) (by kernel_rfl) (by kernel_rfl) (by kernel_rfl) (fun _ _ _ h => h) (Or.inl ⟨by rfl, ?_⟩) HK1.out ?_
      rotate_left
      · (intro w hSw; (try dsimp only at hSw); go_simp)
        all_goals with_reducible rfl
      try simp only [Act.put, List.setIfInBounds_toArray]
      refine wpAnyK_take (i := 1) (v := ?_) rfl rfl (by kernel_rfl) (by decide) (by kernel_rfl) (by kernel_rfl) (by kernel_rfl) (fun _ _ _ h => h) (Or.inl ⟨by rfl, ?_⟩) HK1.out ?_
      rotate_left
      · (intro w hSw; (try dsimp only at hSw); go_simp)
        all_goals with_reducible rfl
      try simp only [Act.put]
      refine wpAnyK_take (i := 2) (v := ?_) rfl rfl (by kernel_rfl) (by decide) (by kernel_rfl) (by kernel_rfl) (by kernel_rfl) (fun _ _ _ h => h) (Or.inl ⟨by rfl, ?_⟩) HK1.out ?_
      rotate_left
      · (intro w hSw; (try dsimp only at hSw); go_simp)
        all_goals with_reducible rfl
      try simp only [Act.put]
      refine wpAnyK_take (i := 3) (v := ?_) rfl rfl (by kernel_rfl) (by decide) (by kernel_rfl) (by kernel_rfl) (by kernel_rfl) (fun _ _ _ h => h) (Or.inl ⟨by rfl, ?_⟩) HK1.out ?_
      rotate_left
      · (intro w hSw; (try dsimp only at hSw); go_simp)
        all_goals with_reducible rfl
      try simp only [Act.put]
      refine wpAnyK_take (i := 4) (v := ?_) rfl rfl (by kernel_rfl) (by decide) (by kernel_rfl) (by kernel_rfl) (by kernel_rfl) (fun _ _ _ h => h) (Or.inl ⟨by rfl, ?_⟩) HK1.out ?_
      rotate_left
      · (intro w hSw; (try dsimp only at hSw); go_simp)
        all_goals with_reducible rfl
      try simp only [Act.put]
      refine wpAnyK_take (i := 5) (v := ?_) rfl rfl (by kernel_rfl) (by decide) (by kernel_rfl) (by kernel_rfl) (by kernel_rfl) (fun _ _ _ h => h) (Or.inl ⟨by rfl, ?_⟩) HK1.out ?_
      rotate_left
      · (intro w hSw; (try dsimp only at hSw); go_simp)
        all_goals with_reducible rfl
      try simp only [Act.put]
      refine wpAnyK_take (i := 6) (v := ?_) rfl rfl (by kernel_rfl) (by decide) (by kernel_rfl) (by kernel_rfl) (by kernel_rfl) (fun _ _ _ h => h) (Or.inl ⟨by rfl, ?_⟩) HK1.out ?_
      rotate_left
      · (intro w hSw; (try dsimp only at hSw); go_simp)
        all_goals with_reducible rfl
      try simp only [Act.put]
      refine wpAnyK_one (i := 7) (by kernel_rfl) rfl (fun K hK => ?_)
      go_simp
      go_at_call 23
      refine (implPathLies_any a a' z N cap cap' c y.ss _ (by omega) HSZ.out hl HM.out hxl (HP.out.later (HB9'.out.trans ((heldR HK1.out).mono HB9'.out.size))) (HJ.out.later (HB9'.out.trans ((heldR HK1.out).mono HB9'.out.size))) (HSY.out.1.later (heldR HK1.out))).mono ?_
      rintro e wU ⟨v, rfl, hOW, h4, hbU⟩
      have HGU : Hid (SR w9 wU w.heap.size bR (.slice a N.pcs.length cap) (.slice a' N.jts.length cap') y.far (.slice z y.ss.length c)) := keepR hbU HK1.out
      obtain ⟨zl, cl, rfl, hLE⟩ := lies_shape hOW
      have HLE := hide hLE
      have HOW := hide hOW
      have HZU := hide (HZ9.out.later (heldR HGU.out))
      clear hLE hOW hbU
      try go_simp
      refine hK.out _ _ HGU.out (fun _ => ?_)
      clear hK K
      try simp only [Act.put, List.setIfInBounds_toArray]
      refine wpAnyK_take (i := 8) (v := ?_) rfl rfl (by kernel_rfl) (by decide) (by kernel_rfl) (by kernel_rfl) (by kernel_rfl) (fun _ _ _ h => h) (Or.inl ⟨by rfl, ?_⟩) HGU.out ?_
      rotate_left
      · (intro w hSw; (try dsimp only at hSw); go_simp)
        all_goals with_reducible rfl
      try simp only [Act.put, List.setIfInBounds_toArray]
      obtain ⟨⟨z0, z1, z2, z3⟩, fz, hT⟩ := HZU.out
      have f0 := fz 0
      have f1 := fz 1
      have f2 := fz 2
      have f3 := fz 3
      have hz6 := cell_lt z0
      have hz9 := cell_lt HZ9.out.1.1
      clear fz hT
      refine wpAnyK_last (by kernel_rfl) rfl (by kernel_rfl) (fun K hK => ?_)
      go_simp
      refine hK.out _ _ ?_
      clear hK K
      have HB7 := hide (below4 (b := w.heap.size + 1 + 1 + 1) (HB9'.out.trans ((heldR HGU.out).mono HB9'.out.size)) (by omega) (.bool true) (.int .i64 y.far) (.slice z y.ss.length c) (.slice zl ((liesQ N y.ss).getD []).length cl))
      have hm := mid4 wU (w.heap.size + 1 + 1 + 1) (.bool true) (.int .i64 y.far) (.slice z y.ss.length c) (.slice zl ((liesQ N y.ss).getD []).length cl)
      have HSF := hide (((HSY.out.later (heldR HGU.out)).mid hm HZU.out.2.2).1)
      have hsU := (heldR HGU.out).size
      have HLF := hide (ends_mid HLE.out hm (fun b o e => by
        subst e
        have h := owns_ge HOW.out rfl
        change w9.heap.size ≤ b at h
        omega))
      clear hm
      go_wp2_with fail
      exact bodyPost_ret (v := .agg #[.bool true, .int .i64 y.far, .slice z y.ss.length c, .slice zl ((liesQ N y.ss).getD []).length cl]) (by simp [results, Tryz.results6, go_sem, z0, z1, z2, z3]) rfl ⟨_, rfl, .inr ⟨y, z, c, zl, cl, HY.out, rfl, HSF.out, HLF.out, h4⟩, HB7.out⟩
end Go.Proofs.YtldafgbhjpfboaaGreat

/- spec.l4from: rows of ways, what stays while they grow. Own work. -/
namespace Go.Proofs.YtldafgbhjpfboaaGreat
open Go.RowKit Go.Sort
set_option maxHeartbeats 8000000
set_option maxRecDepth 100000

theorem cfs_form {w : World} {base : Nat} {v : Value} {l : List Cf} (h : w.ownsRow base 71 5 v l.length (cfCells l)) : ∃ z c, v = .slice z l.length c ∧ ∀ k (hk : k < l.length), ∃ g, z = some ⟨g, 0, none⟩ ∧ v.ownBlock = some g ∧ base ≤ g ∧ g < w.heap.size ∧ w.cell? ⟨g, k * 5, none⟩ = some (.int .i64 (lastS l[k].y).1) ∧ w.cell? ⟨g, k * 5 + 1, none⟩ = some (.int .i64 l[k].a) ∧ w.cell? ⟨g, k * 5 + 2, none⟩ = some (.int .i64 (lastS l[k].y).2) ∧ w.cell? ⟨g, k * 5 + 3, none⟩ = some (.int .i64 l[k].y.far) ∧ w.cell? ⟨g, k * 5 + 4, none⟩ = some (.slice l[k].z l[k].y.ss.length l[k].c) := by
  rcases id h.2 with ⟨rfl, h0⟩ | ⟨g, cap, cur, rfl, hb, hg, _⟩
  · exact ⟨none, 0, by rw [h0], fun k hk => by omega⟩
  · refine ⟨_, cap, rfl, fun k hk => ⟨g, rfl, rfl, hb, (h.lt g rfl).2, ?_⟩⟩
    obtain ⟨a0, a1, a2, a3, a4⟩ := cfCells_at l k hk
    exact ⟨(h.cellAt _ (by omega)).trans a0, (h.cellAt _ (by omega)).trans a1, (h.cellAt _ (by omega)).trans a2, (h.cellAt _ (by omega)).trans a3, (h.cellAt _ (by omega)).trans a4⟩
theorem cfs_at {w : World} {base g n cap : Nat} {l : List Cf} (h : w.ownsRow base 71 5 (.slice (some ⟨g, 0, none⟩) n cap) n (cfCells l)) {k : Nat} {i : Cf} (hk : l[k]? = some i) : w.cell? ⟨g, k * 5, none⟩ = some (.int .i64 (lastS i.y).1) ∧ w.cell? ⟨g, k * 5 + 1, none⟩ = some (.int .i64 i.a) ∧ w.cell? ⟨g, k * 5 + 2, none⟩ = some (.int .i64 (lastS i.y).2) ∧ w.cell? ⟨g, k * 5 + 3, none⟩ = some (.int .i64 i.y.far) ∧ w.cell? ⟨g, k * 5 + 4, none⟩ = some (.slice i.z i.y.ss.length i.c) := by
  have hl : l.length = n := by have := h.1; rw [cfCells_len] at this; omega
  obtain ⟨hk', rfl⟩ := List.getElem?_eq_some_iff.1 hk
  obtain ⟨a0, a1, a2, a3, a4⟩ := cfCells_at l k hk'
  exact ⟨(h.cellAt _ (by omega)).trans a0, (h.cellAt _ (by omega)).trans a1, (h.cellAt _ (by omega)).trans a2, (h.cellAt _ (by omega)).trans a3, (h.cellAt _ (by omega)).trans a4⟩
theorem set_same {α : Type} {l : List α} {i : Nat} {x : α} (h : l[i]? = some x) : l.set i x = l := by
  refine List.ext_getElem? fun j => ?_
  by_cases e : i = j
  · subst e
    obtain ⟨hi, _⟩ := List.getElem?_eq_some_iff.1 h
    rw [List.getElem?_set_self hi, h]
  · rw [List.getElem?_set_ne e]
theorem cfCells_far {bl : List Cf} {p : Nat} (hp : bl[p]? = some c0) : cfCells (bl.set p cN) = (cfCells bl).set (p * 5 + 3) (.int .i64 (-1)) := by
  obtain ⟨hk, e⟩ := List.getElem?_eq_some_iff.1 hp
  obtain ⟨a0, a1, a2, _, a4⟩ := cfCells_at bl p hk
  rw [e] at a0 a1 a2 a4
  rw [cfCells_set bl p cN hk]
  have h0 : (cfCells bl).set (p * 5) (.int .i64 (lastS cN.y).1) = cfCells bl := set_same a0
  have h1 : (cfCells bl).set (p * 5 + 1) (.int .i64 cN.a) = cfCells bl := set_same a1
  have h2 : (cfCells bl).set (p * 5 + 2) (.int .i64 (lastS cN.y).2) = cfCells bl := set_same a2
  rw [h0, h1, h2]
  refine set_same ?_
  rw [List.getElem?_set_ne (by omega)]
  exact a4
section
variable {w wr wr' : World} {v0 v1 lv nv : Value} {n2 bB kB : Nat} {bl line nx : List Cf} {kl : List Bool}
theorem FrI.far (h : FrI w wr v0 v1 n2 bB kB bl kl lv line nv nx) {p : Nat} (hp : bl[p]? = some c0) : FrI w (wr.setCell ⟨bB, p * 5 + 3, none⟩ (.int .i64 (-1))) v0 v1 n2 bB kB (bl.set p cN) kl lv line nv nx := by
  have hm : Mid bB (bB + 1) wr (wr.setCell ⟨bB, p * 5 + 3, none⟩ (.int .i64 (-1))) := Mid.set1 _
  obtain ⟨l1, l2, _, _⟩ := h.lo
  have hne := h.neK
  have hT := owns_type h.ob rfl (show (71 : TypeId) ≠ 37 by decide)
  refine ⟨hm.cell (by omega) h.n0, hm.cell (by omega) h.n1, h.below.trans ((hm.below (by omega)).mono (by omega)), ?_, owns_off h.ok hm (show some kB ≠ some bB from fun e => hne (Option.some.inj e)), owns_off h.ol hm h.d1, owns_off h.on hm h.d2, h.d1, h.d2, h.d3, fun i hi => ?_⟩
  · rw [cfCells_far hp]
    exact (h.ob.stored (p * 5 + 3) (.int .i64 (-1))).1
  · rcases hi with hi | hi
    · rcases List.mem_or_eq_of_mem_set hi with hi | rfl
      · exact (h.rs i (.inl hi)).mid hm hT
      · exact ⟨fun k hk => by simp [cN] at hk, fun b o e => by cases e⟩
    · exact (h.rs i (.inr hi)).mid hm hT
theorem FrI.app_len (h : FrI w wr v0 v1 n2 bB kB bl kl lv line nv nx) {g : Nat} (e : nv.ownBlock = some g) : w.heap.size + 2 ≤ g ∧ g < wr.heap.size := h.on.lt g e
/-- What is read of the two rows. -/
theorem FrI.kAt (h : FrI w wr v0 v1 n2 bB kB bl kl lv line nv nx) {p : Nat} {b : Bool} (hp : kl[p]? = some b) : wr.cell? ⟨kB, p, none⟩ = some (.bool b) := by
  have hl := h.len.2
  obtain ⟨hk, _⟩ := List.getElem?_eq_some_iff.1 hp
  have h1 := h.ok.cellAt p (by omega)
  rw [h1]
  simp [hp]
end
/-! ### Blocks between two marks stay -/
structure Keep3 (M : Nat) (w5 wx : World) (nv : Value) : Prop where
  size : w5.heap.size ≤ wx.heap.size
  block : ∀ b, M ≤ b → b < w5.heap.size → wx.heap[b]? = w5.heap[b]?
  off : ∀ g, nv.ownBlock = some g → g < M ∨ w5.heap.size ≤ g
section
variable {M : Nat} {w5 wx wx' : World} {nv : Value}
theorem Keep3.start (h : ∀ g, nv.ownBlock = some g → g < M) : Keep3 M w5 w5 nv := ⟨Nat.le_refl _, fun _ _ _ => rfl, fun g e => .inl (h g e)⟩
theorem Keep3.below (h : Keep3 M w5 wx nv) (hb : Below wx.heap.size wx wx') : Keep3 M w5 wx' nv :=
  ⟨Nat.le_trans h.size hb.size, fun b h1 h2 => (hb.block b (Nat.lt_of_lt_of_le h2 h.size)).trans (h.block b h1 h2), h.off⟩
theorem Keep3.mid (h : Keep3 M w5 wx nv) {g : Nat} (hm : Mid g (g + 1) wx wx') (hg : g < M) : Keep3 M w5 wx' nv :=
  ⟨Nat.le_trans h.size hm.size, fun b h1 h2 => (hm.block b (Nat.lt_of_lt_of_le h2 h.size) (by omega)).trans (h.block b h1 h2), h.off⟩
theorem Keep3.app (h : Keep3 M w5 wx nv) (hg : wx.grownBy wx' nv.ownBlock) {nv' : Value} (hn : ∀ g, nv'.ownBlock = some g → nv.ownBlock = some g ∨ wx.heap.size ≤ g) : Keep3 M w5 wx' nv' := by
  refine ⟨Nat.le_trans h.size hg.size, fun b h1 h2 => (hg.block b (Nat.lt_of_lt_of_le h2 h.size) (fun e => ?_)).trans (h.block b h1 h2), fun g e => ?_⟩
  · rcases h.off b e.symm with h' | h' <;> omega
  · rcases hn g e with h' | h'
    · exact h.off g h'
    · exact .inr (Nat.le_trans h.size h')
theorem Keep3.cell (h : Keep3 M w5 wx nv) {b o : Nat} {u : Value} (hb : M ≤ b) (hc : w5.cell? ⟨b, o, none⟩ = some u) : wx.cell? ⟨b, o, none⟩ = some u := by
  rw [World.cell?_of_block (a := ⟨b, o, none⟩) (h.block b hb (cell_lt hc))]
  exact hc
theorem Keep3.ends (h : Keep3 M w5 wx nv) {z : Option Addr} {l : List (Int × Int)} (hz : ∀ b o, z = some ⟨b, o, none⟩ → M ≤ b) (he : EndsAt w5 z l) : EndsAt wx z l := by
  intro k hk
  obtain ⟨b, o, rfl, c0, c1⟩ := he k hk
  exact ⟨b, o, rfl, h.cell (hz b o rfl) c0, h.cell (hz b o rfl) c1⟩
end
theorem l4less_q (za zb : Option Addr) (ca cb : Nat) (a0 a1 a2 b0 b1 b2 : Int) (x y : Wy) (w : World) (hx : x.ss.length ≤ 1048576) (ha : EndsAt w za x.ss) (hb : EndsAt w zb y.ss) (d : Nat) (os : Array Obj) :
    Calls Tryz.prog 28 #[.agg #[.int .i64 a0, .int .i64 a1, .int .i64 a2, .int .i64 x.far, .slice za x.ss.length ca], .agg #[.int .i64 b0, .int .i64 b1, .int .i64 b2, .int .i64 y.far, .slice zb y.ss.length cb]] (grow (redrawn w d) os) fun e w'' => e = .returned (.bool (lessW x y)) ∧ ∃ p : Regrown, w'' = grow (redrawn w p.d) p.os :=
  Calls.regrown_of (l4less_any za zb ca cb a0 a1 a2 b0 b1 b2 x y _ hx (ha.later (below_regrown w d os)) (hb.later (below_regrown w d os)))
/-! ### How many there can be -/
theorem cands_len {G : Gr} {room : Int} (hx : ∀ e, (G.nx e).length ≤ 2) : ∀ (l : List Wy), (cands G room l).length ≤ 2 * l.length
  | [] => by simp [cands]
  | y :: l => by
    have ih := cands_len (room := room) hx l
    have e : cands G room (y :: l) = candsOf G room y (y.ss.getLast?.getD (0, 0)) ++ cands G room l := rfl
    have h1 := hx (headP (y.ss.getLast?.getD (0, 0)).1 (y.ss.getLast?.getD (0, 0)).2)
    rw [e, List.length_append, List.length_cons]
    simp only [candsOf, List.length_map]
    omega
theorem cands_succ {G : Gr} {room : Int} {line : List Cf} {j : Nat} (hj : j < line.length) : cands G room ((line.map Cf.y).take (j + 1)) = cands G room ((line.map Cf.y).take j) ++ candsOf G room line[j].y (lastS line[j].y) := by
  rw [List.take_succ_eq_append_getElem (by simpa using hj)]
  simp [cands, lastS]
theorem cfs_rd {w : World} {base n c : Nat} {z : Option Addr} {l : List Cf} (h : w.ownsRow base 71 5 (.slice z n c) l.length (cfCells l)) {k : Nat} (hk : k < l.length) : ∃ g, z = some ⟨g, 0, none⟩ ∧ w.cell? ⟨g, k * 5, none⟩ = some (.int .i64 (lastS l[k].y).1) ∧ w.cell? ⟨g, k * 5 + 1, none⟩ = some (.int .i64 l[k].a) ∧ w.cell? ⟨g, k * 5 + 2, none⟩ = some (.int .i64 (lastS l[k].y).2) ∧ w.cell? ⟨g, k * 5 + 3, none⟩ = some (.int .i64 l[k].y.far) ∧ w.cell? ⟨g, k * 5 + 4, none⟩ = some (.slice l[k].z l[k].y.ss.length l[k].c) := by
  obtain ⟨z', c', e, hf⟩ := cfs_form h
  obtain ⟨g, hz, _, _, _, h5⟩ := hf k hk
  have e1 : z = z' := by simp only [Value.slice.injEq] at e; exact e.1
  exact ⟨g, e1.trans hz, h5⟩
/-- While rows are marked that hold nothing. -/
def EndR (best : Int × Int → Option Wy) (bl bl' : List Cf) (n2 p : Nat) : Prop :=
  ∀ r, r < n2 → (r < p → (best (stepAt r) = none ∧ bl'[r]? = some cN) ∨ ∃ i, best (stepAt r) = some i.y ∧ bl'[r]? = some i) ∧ (p ≤ r → bl'[r]? = bl[r]?)
theorem EndR.start (best : Int × Int → Option Wy) (bl : List Cf) (n2 : Nat) : EndR best bl bl n2 0 := fun r _ => ⟨fun h => by omega, fun _ => rfl⟩
theorem EndR.none {best : Int × Int → Option Wy} {bl bl' : List Cf} {n2 p : Nat} (h : EndR best bl bl' n2 p) (hp : p < n2) (hl : bl'.length = n2) (hb : best (stepAt p) = none) : EndR best bl (bl'.set p cN) n2 (p + 1) := by
  intro r hr
  by_cases e : r = p
  · subst e
    exact ⟨fun _ => .inl ⟨hb, by simp [hl, hr]⟩, fun h => by omega⟩
  · rw [List.getElem?_set_ne (fun h => e h.symm)]
    exact ⟨fun h' => (h r hr).1 (by omega), fun h' => (h r hr).2 (by omega)⟩
theorem EndR.some {best : Int × Int → Option Wy} {bl bl' : List Cf} {n2 p : Nat} (h : EndR best bl bl' n2 p) (hp : p < n2) {i : Cf} (hb : best (stepAt p) = some i.y) (hi : bl[p]? = some i) : EndR best bl bl' n2 (p + 1) := by
  intro r hr
  by_cases e : r = p
  · subst e
    exact ⟨fun _ => .inr ⟨i, hb, ((h r hr).2 (Nat.le_refl _)).trans hi⟩, fun h => by omega⟩
  · exact ⟨fun h' => (h r hr).1 (by omega), fun h' => (h r hr).2 (by omega)⟩
/-- A way that is made longer: its box, and its steps, which are a row of their own. -/
structure XB (W wi : World) (bX : Nat) (x0 x1 x2 x3 : Int) (xv : Value) (l : List (Int × Int)) : Prop where
  below : Below W.heap.size W wi
  lo : W.heap.size ≤ bX
  c0 : wi.cell? ⟨bX, 0, none⟩ = some (.int .i64 x0)
  c1 : wi.cell? ⟨bX, 1, none⟩ = some (.int .i64 x1)
  c2 : wi.cell? ⟨bX, 2, none⟩ = some (.int .i64 x2)
  c3 : wi.cell? ⟨bX, 3, none⟩ = some (.int .i64 x3)
  c4 : wi.cell? ⟨bX, 4, none⟩ = some xv
  f4 : wi.frozen? ⟨bX, 4, none⟩ = false
  own : wi.ownsRow (bX + 1) 37 2 xv l.length (lieCells l)
section
variable {W wi wj w7 : World} {bX : Nat} {x0 x1 x2 x3 : Int} {xv : Value} {l : List (Int × Int)}
theorem XB.later (h : XB W wi bX x0 x1 x2 x3 xv l) (hb : Below wi.heap.size wi wj) : XB W wj bX x0 x1 x2 x3 xv l :=
  ⟨h.below.trans (hb.mono h.below.size), h.lo, cell_later' hb h.c0, cell_later' hb h.c1, cell_later' hb h.c2, cell_later' hb h.c3, cell_later' hb h.c4, frozen_later hb h.c4 h.f4, owns_later' h.own hb⟩
theorem XB.add (h : XB W wj bX x0 x1 x2 x3 xv l) (hg : wj.grownBy w7 xv.ownBlock) {g cp : Nat} {y1 y2 : Int} (hown : w7.ownsRow (bX + 1) 37 2 (.slice (some ⟨g, 0, none⟩) (l.length + 1) cp) (l.length + 1) (lieCells l ++ [.int .i64 y1, .int .i64 y2])) : XB W (w7.setCell ⟨bX, 4, none⟩ (.slice (some ⟨g, 0, none⟩) (l.length + 1) cp)) bX x0 x1 x2 x3 (.slice (some ⟨g, 0, none⟩) (l.length + 1) cp) (l ++ [(y1, y2)]) := by
  have hX := cell_lt h.c0
  have hne : some bX ≠ xv.ownBlock := fun e => by have := (h.own.lt bX e.symm).1; omega
  have eB : w7.heap[bX]? = wj.heap[bX]? := hg.block bX hX hne
  have hc : ∀ o u, wj.cell? ⟨bX, o, none⟩ = some u → w7.cell? ⟨bX, o, none⟩ = some u := fun o u hc => by rw [World.cell?_of_block (a := ⟨bX, o, none⟩) eB]; exact hc
  have hm : Mid bX (bX + 1) w7 (w7.setCell ⟨bX, 4, none⟩ (.slice (some ⟨g, 0, none⟩) (l.length + 1) cp)) := Mid.set1 _
  have hgB := (hown.lt g rfl).1
  have hst := h.below.size
  refine ⟨?_, h.lo, ?_, ?_, ?_, ?_, ?_, ?_, ?_⟩
  · have h7 : Below W.heap.size W w7 := ⟨hg.os.trans h.below.os, hg.tape.trans h.below.tape, hg.output.trans h.below.output, Nat.le_trans h.below.size hg.size, fun k hk => (hg.block k (by omega) (fun e => by have := (h.own.lt k e.symm).1; have := h.lo; omega)).trans (h.below.block k hk)⟩
    exact h7.trans ((hm.below (by have := hg.size; omega)).mono h.lo)
  · exact (World.cell?_setCell_other _ _ _ _ (by simp)).trans (hc _ _ h.c0)
  · exact (World.cell?_setCell_other _ _ _ _ (by simp)).trans (hc _ _ h.c1)
  · exact (World.cell?_setCell_other _ _ _ _ (by simp)).trans (hc _ _ h.c2)
  · exact (World.cell?_setCell_other _ _ _ _ (by simp)).trans (hc _ _ h.c3)
  · exact World.cell?_setCell_same _ _ _ (hc _ _ h.c4)
  · exact (World.frozen?_setCell _ _ _ _).trans (by rw [World.frozen?_of_block (a := ⟨bX, 4, none⟩) eB]; exact h.f4)
  · have h' := owns_off hown hm (show some g ≠ some bX from fun e => by have := Option.some.inj e; omega)
    rw [lieCells_add2, List.length_append]
    exact h'
end
end Go.Proofs.YtldafgbhjpfboaaGreat
