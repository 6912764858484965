/- impl.Loops. Own work. -/
import Derived.Test.YtldafgbhjpfboaaMxBA
import Derived.Test.YtldafgbhjpfboaaMxBB
import Derived.Test.YtldafgbhjpfboaaTrA
import Derived.Test.YtldafgbhjpfboaaMxAN
import Derived.Deep.RegionHeld3
namespace Go.Proofs.Ytldafgbhjpfboaa
open Go.RowKit Go.Sort
set_option maxHeartbeats 8000000
set_option maxRecDepth 100000

def wayV (s : Nat) : Int := if s = 0 then 1 else -1
theorem wayV_step (k s : Nat) (hs : s ≤ 1) : stepAt (2 * k + s) = ((k : Int), wayV s) := by
  unfold stepAt stepOf wayV
  rw [show (2 * k + s) / 2 = k by omega, show (2 * k + s) % 2 = s by omega]
  have h : s = 0 ∨ s = 1 := by omega
  rcases h with rfl | rfl <;> rfl
theorem wayV_head (k s : Nat) (hs : s ≤ 1) : headP (k : Int) (-(wayV s)) = ((k : Int), (s : Int)) := by
  have h : s = 0 ∨ s = 1 := by omega
  rcases h with rfl | rfl <;> rfl
/-- What a round reads. -/
abbrev SJ (W wx : World) (bL bS : Nat) (v0 v1 v2 : Value) (k wv : Int) : Prop :=
  (wx.cell? ⟨bL, 0, none⟩ = some v0 ∧ wx.cell? ⟨bL, 1, none⟩ = some v1 ∧ wx.cell? ⟨bL, 2, none⟩ = some v2 ∧ wx.cell? ⟨bS, 0, none⟩ = some (.int .i64 k) ∧ wx.cell? ⟨bS, 1, none⟩ = some (.int .i64 wv)) ∧ Hid (Below W.heap.size W wx)
section
variable {W w2 w3 : World} {bL bS : Nat} {v0 v1 v2 : Value} {k wv : Int}
theorem heldJ (h : SJ W w2 bL bS v0 v1 v2 k wv) : Below W.heap.size W w2 := h.2.out
theorem keepJ (hb : Below w2.heap.size w2 w3) (h : SJ W w2 bL bS v0 v1 v2 k wv) : SJ W w3 bL bS v0 v1 v2 k wv := by
  obtain ⟨⟨h0, h1, h2, h3, h4⟩, hw⟩ := h
  exact ⟨⟨cell_later' hb h0, cell_later' hb h1, cell_later' hb h2, cell_later' hb h3, cell_later' hb h4⟩, hw.out.trans (hb.mono hw.out.size)⟩
theorem putJ {b : Nat} (hb : W.heap.size ≤ b) (hL : bL < W.heap.size) (hS : bS < W.heap.size) (h : SJ W w2 bL bS v0 v1 v2 k wv) (x0 x1 : Value) : SJ W ((w2.setCell ⟨b, 0, none⟩ x0).setCell ⟨b, 1, none⟩ x1) bL bS v0 v1 v2 k wv := by
  have hm : Mid b (b + 1) w2 ((w2.setCell ⟨b, 0, none⟩ x0).setCell ⟨b, 1, none⟩ x1) := ((Mid.refl _ _ _).setCell (Nat.le_refl _) (by omega) _).setCell (Nat.le_refl _) (by omega) _
  obtain ⟨⟨h0, h1, h2, h3, h4⟩, hw⟩ := h
  exact ⟨⟨hm.cell (.inl (by omega)) h0, hm.cell (.inl (by omega)) h1, hm.cell (.inl (by omega)) h2, hm.cell (.inl (by omega)) h3, hm.cell (.inl (by omega)) h4⟩, (hw.out.setCell hb _).setCell hb _⟩
end
/-- A box of two that holds nothing yet. -/
def ZeroT (w : World) (b : Nat) : Prop := (w.cell? ⟨b, 0, none⟩ = some (.int .i64 0) ∧ w.cell? ⟨b, 1, none⟩ = some (.slice none 0 0)) ∧ (∀ o, w.frozen? ⟨b, o, none⟩ = false) ∧ ∀ cur fz, w.heap[b]? ≠ some (.cells cur 32 fz)
theorem ZeroT.later {w w' : World} {b : Nat} (h : ZeroT w b) (hb : Below w.heap.size w w') : ZeroT w' b := by
  obtain ⟨⟨h0, h1⟩, hf, hT⟩ := h
  exact ⟨⟨cell_later' hb h0, cell_later' hb h1⟩, fun o => by rw [hb.frozen (p := ⟨b, o, none⟩) (cell_lt h0)]; exact hf o, fun cur fz => by rw [hb.block b (cell_lt h0)]; exact hT cur fz⟩
theorem ZeroT.new (w : World) : ZeroT (w.alloc (.cells #[.int .i64 0, .slice none 0 0] 48)) w.heap.size := by
  refine ⟨⟨new_cell w _ _ 0 _ rfl, new_cell w _ _ 1 _ rfl⟩, fun o => by simp [go_sem], fun cur fz e => ?_⟩
  rw [heap_alloc_new] at e
  simp at e
theorem zeroT_of {w w1 : World} (hb : Below (w.alloc (.cells #[.int .i64 0, .slice none 0 0] 48)).drew.heap.size (w.alloc (.cells #[.int .i64 0, .slice none 0 0] 48)).drew w1) : ZeroT w1 w.heap.size :=
  (ZeroT.new w).later (((Below.refl _ _).drew).trans hb)
theorem zeroT_of' {w w1 : World} (hb : Below (w.alloc (.cells #[.int .i64 0, .slice none 0 0] 48)).heap.size (w.alloc (.cells #[.int .i64 0, .slice none 0 0] 48)) w1) : ZeroT w1 w.heap.size :=
  (ZeroT.new w).later hb
theorem inT_put {w : World} {b : Nat} (h : ZeroT w b) (x y : Value) : ((w.setCell ⟨b, 0, none⟩ x).setCell ⟨b, 1, none⟩ y).cell? ⟨b, 1, none⟩ = some y := by
  obtain ⟨⟨h0, h1⟩, hf⟩ := h
  simp [go_sem, h1]
/-- What is found of a way back. -/
def FoundR (N : Nt) (hr : netOk N = (0, 0)) (p : Nat) (wz : World) (z : Option Addr) (n _c : Nat) (ok : Bool) : Prop :=
  (loopAt N hr p = none ∧ ok = false) ∨ ∃ y, loopAt N hr p = some y ∧ ok = true ∧ n = y.ss.length ∧ StRow wz z y.ss
theorem FoundR.later {N : Nt} {hr : netOk N = (0, 0)} {p n c : Nat} {w1 w2 : World} {z : Option Addr} {ok : Bool} (h : FoundR N hr p w1 z n c ok) (hb : Below w1.heap.size w1 w2) : FoundR N hr p w2 z n c ok := by
  rcases h with h | ⟨y, h1, h2, h3, h4⟩
  · exact .inl h
  · exact .inr ⟨y, h1, h2, h3, h4.later hb⟩
theorem FoundR.put {N : Nt} {hr : netOk N = (0, 0)} {p n c b : Nat} {wT : World} {z : Option Addr} {ok : Bool} (h : FoundR N hr p wT z n c ok) (hz : ZeroT wT b) (x y : Value) : FoundR N hr p ((wT.setCell ⟨b, 0, none⟩ x).setCell ⟨b, 1, none⟩ y) z n c ok := by
  rcases h with h | ⟨y', h1, h2, h3, h4⟩
  · exact .inl h
  · have hm : Mid b (b + 1) wT ((wT.setCell ⟨b, 0, none⟩ x).setCell ⟨b, 1, none⟩ y) := ((Mid.refl _ _ _).setCell (Nat.le_refl _) (by omega) _).setCell (Nat.le_refl _) (by omega) _
    exact .inr ⟨y', h1, h2, h3, h4.mid hm hz.2.2⟩
theorem ZeroT.below {W wT : World} {b : Nat} (_ : ZeroT wT b) (h : Below W.heap.size W wT) (hb : W.heap.size ≤ b) (x y : Value) : Below W.heap.size W ((wT.setCell ⟨b, 0, none⟩ x).setCell ⟨b, 1, none⟩ y) := (h.setCell hb x).setCell hb y
theorem trail_found {N : Nt} {hr : netOk N = (0, 0)} {p mk nk : Nat} {t : Int × Int} {wT : World} {known : Int × Int → Option It} (hK : KM wT mk nk (fun t => (known t).map trOf)) (hw : Wf2 t) (hB : (known t).map It.y = loopAt N hr p) (hS : ∀ t i, known t = some i → StRow wT i.z i.y.ss ∧ ∃ b, i.z = some ⟨b, 0, none⟩) :
    ∃ (far : Int) (z : Option Addr) (n c : Nat) (ok : Bool), (∀ w', Below wT.heap.size wT w' → (Instr.lookup 50 (.map (some mk)) (.agg #[.int .i64 t.1, .int .i64 t.2]) true).run Try.prog w' = .ok (.tuple #[.agg #[.int .i64 far, .slice z n c], .bool ok]) w') ∧ FoundR N hr p wT z n c ok := by
  cases hk : known t with
  | none =>
    refine ⟨0, none, 0, 0, false, fun w' hb => ?_, .inl ⟨by rw [← hB, hk]; rfl, rfl⟩⟩
    have h := (hK.of_block (hb.block _ hK.lt)).look_ok t.1 t.2 hw
    rw [hk] at h
    exact h
  | some i =>
    obtain ⟨h1, b, h2⟩ := hS t i hk
    refine ⟨i.y.far, i.z, i.y.ss.length, i.c, true, fun w' hb => ?_, .inr ⟨i.y, by rw [← hB, hk]; rfl, rfl, rfl, h1⟩⟩
    have h := (hK.of_block (hb.block _ hK.lt)).look_ok t.1 t.2 hw
    rw [hk] at h
    simp only [Option.map_some, Option.getD_some, Option.isSome_some, trV_of h2] at h
    exact h
theorem implLoops_any (a a' : Option Addr) (N : Nt) (cap cap' : Nat) (w : World) (hright : netOk N = (0, 0)) (hn : N.pcs.length ≤ 9) (hsz : ∀ p ∈ N.pcs, p.name.size ≤ 1048576) (hl : N.jts.length ≤ 1048576) (hm : ∀ j ∈ N.jts, j.name.size ≤ 1048576 ∧ j.ends.length ≤ 1048576) (hP : PcsAt w a N.pcs) (hJ : JtsAt w a' N.jts) :
    Calls Try.prog 5 #[.agg #[.slice a N.pcs.length cap, .slice a' N.jts.length cap']] w fun e w' => ∃ v, e = .returned v ∧ LoopsR N hright w w' v := by
  obtain ⟨iS, hiS, hzS0, hzS1, hzS2⟩ := info_parts infoSteps
  have HIS := hide hiS
  have HS0 := hide hzS0
  have HS1 := hide hzS1
  have HS2 := hide hzS2
  have HP := hide hP
  have HJ := hide hJ
  have HR := hide hright
  have HM := hide hm
  have HME := hide (fun j (hj : j ∈ N.jts) => (HM.out j hj).2)
  have HW := hide (ends_wf (show N.pcs.length ≤ 1048576 by omega) (right_facts hright).2.2.1)
  have HSZ := hide hsz
  have hA := (Below.refl w.heap.size w).alloc (Nat.le_refl _) (.cells #[.slice a N.pcs.length cap, .slice a' N.jts.length cap'] 26)
  have n0 := new_cell w #[.slice a N.pcs.length cap, .slice a' N.jts.length cap'] 26 0 (.slice a N.pcs.length cap) rfl
  have n1 := new_cell w #[.slice a N.pcs.length cap, .slice a' N.jts.length cap'] 26 1 (.slice a' N.jts.length cap') rfl
  clear hiS hzS0 hzS1 hzS2 hP hJ hm hsz
  go_enter Try.func5, Try.ntmps5
  go_wp2_with fail
  refine (implNetOk_any a a' N cap cap' _ (by omega) HSZ.out hl HM.out (HP.out.later hA) (HJ.out.later hA)).mono ?_
  rintro e w2 ⟨rfl, hb2⟩
  rw [HR.out]
  dsimp only
  have HB2 := hide (hA.trans (hb2.mono hA.size))
  have n0 := cell_later' hb2 n0
  have n1 := cell_later' hb2 n1
  have hn2 := cell_lt n0
  clear hb2 hA
  go_wp2_with fail
  refine (layoutOf_any a a' N cap cap' _ hl HME.out HW.out (HJ.out.later HB2.out)).mono ?_
  rintro e w3 ⟨m, n, rfl, hSE, hm1, hb3⟩
  have hA3 := hb3.alloc hb3.size (.cells #[.slice a N.pcs.length cap, .slice a' N.jts.length cap', .map (some m)] 44)
  have l0 := new_cell w3 #[.slice a N.pcs.length cap, .slice a' N.jts.length cap', .map (some m)] 44 0 (.slice a N.pcs.length cap) rfl
  have l1 := new_cell w3 #[.slice a N.pcs.length cap, .slice a' N.jts.length cap', .map (some m)] 44 1 (.slice a' N.jts.length cap') rfl
  have l2 := new_cell w3 #[.slice a N.pcs.length cap, .slice a' N.jts.length cap', .map (some m)] 44 2 (.map (some m)) rfl
  have HSE := hide (hSE.of_block (Below.heap_alloc w3 (.cells #[.slice a N.pcs.length cap, .slice a' N.jts.length cap', .map (some m)] 44) m hSE.lt))
  have HB3 := hide (HB2.out.trans (hA3.mono HB2.out.size))
  have n0 := cell_later' hA3 n0
  have n1 := cell_later' hA3 n1
  clear hSE hA3 hb3 hm1
  go_upto_region 4 with fail
  generalize w3.alloc (.cells #[.slice a N.pcs.length cap, .slice a' N.jts.length cap', .map (some m)] 44) = wb at *
  generalize w3.heap.size = bL at *
  have hn3 := cell_lt n0
  have hl3 := cell_lt l0
  go_wp2_with fail
  go_loopw [4, 5, 7, 8, 9, 10, 20] (fun s4 _ _ _ _ _ ix wr => ∃ (k : Nat) (l : List Lp), k ≤ N.pcs.length ∧ ix = .int .i64 k ∧ Hid (LpI wb wr s4 l) ∧ Hid (l.map Lp.ss = loopsTo N hright (2 * k))) (fun _ _ _ _ _ _ ix _ => N.pcs.length - (intOf ix).toNat)
  case atStart => exact ⟨0, [], Nat.zero_le _, rfl, ⟨Below.refl _ _, World.ownsRow_nil _ _ _ _, fun i hi => by simp at hi⟩, rfl⟩
  case round =>
    obtain ⟨k, l, hk, rfl, HL, HQ⟩ := hrel
    by_cases hlt : k < N.pcs.length
    · have hki : (k : Int) < (N.pcs.length : Int) := by omega
      have hAw := (Below.refl wr.heap.size wr).alloc (Nat.le_refl _) (.cells #[.int .i64 1, .int .i64 (-1)] 3)
      have HLA := hide (HL.out.later hAw)
      have hc0 := new_cell wr #[.int .i64 1, .int .i64 (-1)] 3 0 (.int .i64 1) rfl
      have hc1 := new_cell wr #[.int .i64 1, .int .i64 (-1)] 3 1 (.int .i64 (-1)) rfl
      have HCW := hide (show ∀ s, s ≤ 1 → (wr.alloc (.cells #[.int .i64 1, .int .i64 (-1)] 3)).cell? ⟨wr.heap.size, s, none⟩ = some (.int .i64 (wayV s)) from fun s hs => by
        have h : s = 0 ∨ s = 1 := by omega
        rcases h with rfl | rfl
        · exact hc0
        · exact hc1)
      have HKS := hide (show Keep3 wr.heap.size (wr.alloc (.cells #[.int .i64 1, .int .i64 (-1)] 3)) (wr.alloc (.cells #[.int .i64 1, .int .i64 (-1)] 3)) u4 from Keep3.start (fun g e => (HL.out.own.lt g e).2))
      clear hc0 hc1 hAw
      go_wp2_with fail
      generalize wr.alloc (.cells #[.int .i64 1, .int .i64 (-1)] 3) = wq at *
      generalize wr.heap.size = bW at *
      go_loopw [4, 7, 8, 9, 10, 25] (fun s4 _ _ _ _ ix wx => ∃ (s : Nat) (l : List Lp), s ≤ 2 ∧ ix = .int .i64 s ∧ Hid (LpI wb wx s4 l) ∧ Hid (l.map Lp.ss = loopsTo N hright (2 * k + s)) ∧ Hid (Keep3 bW wq wx s4)) (fun _ _ _ _ _ ix _ => 2 - (intOf ix).toNat)
      case atStart => exact ⟨0, l, Nat.zero_le _, rfl, HLA, HQ, HKS⟩
      case round =>
        obtain ⟨s, l2', hs, rfl, HL2, HQ2, HK2⟩ := hrel
        rename World => w7
        clear HL HQ HLA HKS
        by_cases hs2 : s < 2
        · have hsi : (s : Int) < 2 := by omega
          have cw := HK2.out.cell (Nat.le_refl _) (HCW.out s (by omega))
          have hcw := cell_lt cw
          obtain ⟨p1, p2, p3, hEN⟩ : ∃ p1 p2 p3, enterP N ((k : Int), (s : Int)) = (p1, p2, p3) := ⟨_, _, _, rfl⟩
          have HEN := hide (show enterP N (headP (k : Int) (-(wayV s))) = (p1, p2, p3) by rw [wayV_head k s (by omega)]; exact hEN)
          have HAT := hide (loopAt_enter HR.out (by omega) hEN)
          have HWV := hide (wayV_step k s (by omega))
          have HSO := hide (show stepOk N.pcs.length ((k : Int), wayV s) = true by
            have h : wayV s = 1 ∨ wayV s = -1 := by unfold wayV; split <;> simp
            simp only [stepOk, inR, Bool.and_eq_true, decide_eq_true_eq, Bool.or_eq_true, beq_iff_eq]
            omega)
          have HWF := hide (show Wf2 ((k : Int), wayV s) by
            have h : wayV s = 1 ∨ wayV s = -1 := by unfold wayV; split <;> simp
            have wf : ∀ x : Int, -1000 ≤ x → x ≤ 1000 → (Lit.int .i64 x).wf = true := fun x a b => by
              simp only [Lit.wf, IntKind.min, IntKind.max, IntKind.bits, IntKind.signed, Bool.and_eq_true, decide_eq_true_eq]
              simp
              omega
            exact ⟨wf _ (by omega) (by omega), wf _ (by omega) (by omega)⟩)
          have HSP := hide (show spotP N p1 p2 p3 = true by
            have h := enterP_ok HR.out (e := ((k : Int), (s : Int))) (by
              simp only [endOk, inR, Bool.and_eq_true, decide_eq_true_eq]
              omega)
            rw [hEN] at h
            exact h)
          have hA8 := (Below.refl w7.heap.size w7).alloc (Nat.le_refl _) (.cells #[.int .i64 k, .int .i64 (wayV s)] 32)
          have HL8 := hide (HL2.out.later hA8)
          have HK8 := hide (HK2.out.below hA8)
          have HSJ : Hid (SJ (w7.alloc (.cells #[.int .i64 k, .int .i64 (wayV s)] 32)) (w7.alloc (.cells #[.int .i64 k, .int .i64 (wayV s)] 32)) bL w7.heap.size (.slice a N.pcs.length cap) (.slice a' N.jts.length cap') (.map (some m)) k (wayV s)) :=
            ⟨⟨cell_later' HL8.out.below l0, cell_later' HL8.out.below l1, cell_later' HL8.out.below l2, new_cell w7 _ _ 0 _ rfl, new_cell w7 _ _ 1 _ rfl⟩, Below.refl _ _⟩
          clear hEN hA8
          go_upto_region 12 with fail
          clear cw
          generalize w7.alloc (.cells #[.int .i64 k, .int .i64 (wayV s)] 32) = w8 at *
          have h8L : bL < w8.heap.size := cell_lt HSJ.out.1.1
          have h8S : w7.heap.size < w8.heap.size := cell_lt HSJ.out.1.2.2.2.1
          have HB8 := hide (HB3.out.trans (HL8.out.below.mono HB3.out.size))
          have HSE8 := hide (HSE.out.of_block (HL8.out.below.block m HSE.out.lt))
          go_cut [9, 10, 25] from 25 to 48 (fun s9 s10 s25 wz => s25 = .int .i64 s ∧ ∃ bR z nn c ok, s9 = .pointer (some ⟨bR, 0, none⟩) ∧ s10 = .bool ok ∧ wz.cell? ⟨bR, 1, none⟩ = some (.slice z nn c) ∧ Hid (FoundR N hright (2 * k + s) wz z nn c ok) ∧ Hid (Below w8.heap.size w8 wz))
          case first =>
            go_region_held3 (fun wx => SJ w8 wx bL w7.heap.size (.slice a N.pcs.length cap) (.slice a' N.jts.length cap') (.map (some m)) k (wayV s))
              (first
                | (exact keepJ ((Below.refl w8.heap.size w8).drew) HSJ.out)
                | (exact keepJ (((Below.refl w8.heap.size w8).alloc (Nat.le_refl _) _).drew) HSJ.out)
                | (exact HGT.out)
                | (exact keepJ ((Below.refl wT.heap.size wT).alloc (Nat.le_refl _) _) HGT.out)
                | (exact putJ (by omega) h8L h8S HGT.out _ _)
                | (exact HGS.out)
                | (exact keepJ ((Below.refl wS.heap.size wS).alloc (Nat.le_refl _) _) HGS.out))
              (first
                | (go_at_call 11; refine (layBegin_any _ _ N _ _ m k (wayV s) p1 p2 p3 _ HSO.out HEN.out (HP.out.later (HB8.out.trans ((heldJ (by assumption)).mono HB8.out.size)))).mono ?_; rintro e wS ⟨rfl, hbS⟩; have HGS : Hid (SJ w8 wS bL w7.heap.size (.slice a N.pcs.length cap) (.slice a' N.jts.length cap') (.map (some m)) k (wayV s)) := keepJ hbS (by assumption); have sS : w8.heap.size ≤ wS.heap.size := (heldJ HGS.out).size; (try (have HZS : Hid (ZeroT wS w8.heap.size) := zeroT_of hbS)); clear hbS)
                | (go_at_call 10; refine (trails_any _ _ N _ _ m n p1 p2 p3 _ HR.out (by omega) HSP.out (HP.out.later (HB8.out.trans ((heldJ (by assumption)).mono HB8.out.size))) (HJ.out.later (HB8.out.trans ((heldJ (by assumption)).mono HB8.out.size))) (HSE8.out.of_block ((heldJ (by assumption)).block m HSE8.out.lt))).mono ?_; rintro e wT ⟨mk, nk, known, rfl, hKM, _, hKB, hKS, hbT⟩; have HGT : Hid (SJ w8 wT bL w7.heap.size (.slice a N.pcs.length cap) (.slice a' N.jts.length cap') (.map (some m)) k (wayV s)) := keepJ hbT (by assumption); have sT : w8.heap.size ≤ wT.heap.size := (heldJ HGT.out).size; (first | (have HZT : Hid (ZeroT wT w8.heap.size) := HZS.out.later hbT; obtain ⟨⟨a0, a1⟩, fz, _⟩ := HZT.out; have f0 := fz 0; have f1 := fz 1; have hal0 := cell_lt a0; clear fz) | (have HZT : Hid (ZeroT wT wS.heap.size) := zeroT_of' hbT; obtain ⟨⟨a0, a1⟩, fz, _⟩ := HZT.out; have f0 := fz 0; have f1 := fz 1; have hal0 := cell_lt a0; clear fz) | skip); obtain ⟨far, z, nn, c, ok, hlk, hFR⟩ := trail_found (N := N) (hr := hright) (p := 2 * k + s) hKM HWF.out (by rw [← HWV.out, hKB, HAT.out.1]) hKS; have HFR := hide hFR; have hlk1 := hlk wT (Below.refl _ _); have hlk2 := hlk _ ((Below.refl wT.heap.size wT).alloc (Nat.le_refl _) (.cells #[.int .i64 0, .slice none 0 0] 48)); clear hlk hFR hKM hKB hKS hbT))
            all_goals
              first
                | (have HFP := hide (HFR.out.put HZT.out (.int .i64 far) (.slice z nn c)); have hcp := inT_put HZT.out (.int .i64 far) (.slice z nn c); have HBP := hide (HZT.out.below (heldJ HGT.out) (by omega) (.int .i64 far) (.slice z nn c)); go_wp2_with fail; go_meet; (case rel => exact ⟨rfl, _, z, nn, c, ok, rfl, rfl, hcp, HFP, HBP⟩))
                | (have hAT := (Below.refl wT.heap.size wT).alloc (Nat.le_refl _) (.cells #[.int .i64 far, .slice z nn c] 48); have HFP := hide (HFR.out.later hAT); have hcp := new_cell wT #[.int .i64 far, .slice z nn c] 48 1 (.slice z nn c) rfl; have HBP := hide ((heldJ HGT.out).trans (hAT.mono sT)); go_wp2_with fail; go_meet; (case rel => exact ⟨rfl, _, z, nn, c, ok, rfl, rfl, hcp, HFP, HBP⟩))
          case rest =>
            obtain ⟨rfl, bR, z, nn, c, ok, rfl, rfl, cR, HFR, HBR⟩ := hcut
            rename World => w9
            have HL9 := hide (HL8.out.later HBR.out)
            have HK9 := hide (HK8.out.below HBR.out)
            have hR9 := cell_lt cR
            cases ok
            · have HQ3 := hide (show l2'.map Lp.ss = loopsTo N hright (2 * k + s + 1) by
                rcases HFR.out with ⟨h, _⟩ | ⟨y, _, h, _⟩
                · rw [loopsTo_none h]; exact HQ2.out
                · cases h)
              go_wp2_with fail
              go_roundw
              case rel => exact ⟨s + 1, l2', by omega, by go_num, HL9, HQ3, HK9⟩
              case measure => simp [intOf]; omega
            · obtain ⟨y, hy, _, hny, hSY⟩ : ∃ y, loopAt N hright (2 * k + s) = some y ∧ true = true ∧ nn = y.ss.length ∧ StRow w9 z y.ss := by
                rcases HFR.out with ⟨_, h⟩ | h
                · cases h
                · exact h
              subst hny
              have HQ3 := hide (show ∀ x : Lp, x.ss = y.ss → (l2' ++ [x]).map Lp.ss = loopsTo N hright (2 * k + s + 1) from fun x hx => by rw [loopsTo_some hy, List.map_append, HQ2.out, ← hx]; rfl)
              have hlen : l2'.length ≤ 20 := by
                have h1 := congrArg List.length HQ2.out
                have h2 := loopsTo_len N hright (2 * k + s)
                rw [List.length_map] at h1
                omega
              have hml : l2'.length + 1 ≤ maxLen := by unfold maxLen; omega
              have hs9 := HL9.out.below.size
              have HSY := hide hSY
              clear hy hSY
              go_wp2_with (first
                | (at_builtin; (refine wpList_append_lies _ rfl _ _ _ rfl wb.heap.size 30 iS _ 1 24 Try.underlying28 HIS.out HS0.out HS1.out HS2.out rfl (by omega) u4 l2'.length (lpCells l2') rfl (HL9.out.own.alloc _) ⟨_, 0, none⟩ 1 1 [.slice z y.ss.length c] rfl rfl (news_at rfl) (by simp [Value.oneCell']) (by omega) hml (by omega) (by simp; omega) _ rfl ?_); intro g2 cp2 w10 hown2 hgrow2 hgg _; have HO7 := hide hown2; have HG7 := hide hgrow2; have HGG := hide hgg; clear hgg))
              all_goals
                have HLN := hide ((HL9.out.later ((Below.refl _ _).alloc (Nat.le_refl _) _)).app (x := ⟨y.ss, z, c⟩) (HSY.out.later ((Below.refl _ _).alloc (Nat.le_refl _) _)) HG7.out HO7.out)
                have HKN := hide ((HK9.out.below ((Below.refl _ _).alloc (Nat.le_refl _) _)).app HG7.out (nv' := .slice (some ⟨g2, 0, none⟩) (l2'.length + 1) cp2) (fun g e => by
                  have e' : g2 = g := by simpa [Value.ownBlock] using e
                  subst e'
                  rcases HGG.out with h | h
                  · exact .inl h
                  · exact .inr (by omega)))
                go_roundw
                case rel => exact ⟨s + 1, _, by omega, by go_num, HLN, HQ3.out ⟨y.ss, z, c⟩ rfl, HKN⟩
                case measure => simp [intOf]; omega
        · have hse : s = 2 := by omega
          subst hse
          go_wp2_with fail
          go_roundw
          case rel => exact ⟨k + 1, l2', by omega, by go_num, HL2, HQ2⟩
          case measure => simp [intOf]; omega
    · have hie : k = N.pcs.length := by omega
      subst hie
      go_wp2_with fail
      go_ret
      exact ⟨_, rfl, l, owns_low HL.out.own HB3.out.size, HQ.out, HL.out.st, HB3.out.trans (HL.out.below.mono HB3.out.size)⟩
end Go.Proofs.Ytldafgbhjpfboaa
