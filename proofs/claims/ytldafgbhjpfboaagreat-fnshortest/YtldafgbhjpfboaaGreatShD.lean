/- spec.Shortest; written by gen_shd.py. Own work. -/
import Derived.Test.YtldafgbhjpfboaaGreatMxBB
import Derived.Test.YtldafgbhjpfboaaGreatMxBC
import Derived.Test.YtldafgbhjpfboaaGreatFrC
import Derived.Test.YtldafgbhjpfboaaGreatMxAZ
import Derived.Test.YtldafgbhjpfboaaGreatSxS
import Derived.Test.YtldafgbhjpfboaaGreatMxBD
import Derived.Deep.RegionHeld3
namespace Go.Proofs.YtldafgbhjpfboaaGreat
open Go.RowKit Go.Sort
set_option maxHeartbeats 8000000
set_option maxRecDepth 100000

section
variable {W w2 w3 : World} {bN bA bB : Nat} {v0 v1 : Value} {q a wy q' a' wy' : Int}
theorem midS {b : Nat} (hb : W.heap.size ≤ b) (hL : bN < W.heap.size) (hA : bA < W.heap.size) (hB : bB < W.heap.size) (hm : Mid b (b + 1) w2 w3) (hW : Below W.heap.size W w3) (h : SS W w2 bN bA bB v0 v1 q a wy q' a' wy') : SS W w3 bN bA bB v0 v1 q a wy q' a' wy' := by
  obtain ⟨⟨h0, h1, h3, h4, h5, h6, h7, h8⟩, hw⟩ := h
  exact ⟨⟨hm.cell (.inl (by omega)) h0, hm.cell (.inl (by omega)) h1, hm.cell (.inl (by omega)) h3, hm.cell (.inl (by omega)) h4, hm.cell (.inl (by omega)) h5, hm.cell (.inl (by omega)) h6, hm.cell (.inl (by omega)) h7, hm.cell (.inl (by omega)) h8⟩, hW⟩
theorem putS1 {b o : Nat} (hb : W.heap.size ≤ b) (hL : bN < W.heap.size) (hA : bA < W.heap.size) (hB : bB < W.heap.size) (h : SS W w2 bN bA bB v0 v1 q a wy q' a' wy') (x : Value) : SS W (w2.setCell ⟨b, o, none⟩ x) bN bA bB v0 v1 q a wy q' a' wy' :=
  midS hb hL hA hB (Mid.set1 x) (h.2.out.setCell hb x) h
theorem putS5 {b : Nat} (hb : W.heap.size ≤ b) (hL : bN < W.heap.size) (hA : bA < W.heap.size) (hB : bB < W.heap.size) (h : SS W w2 bN bA bB v0 v1 q a wy q' a' wy') (x0 x1 x2 x3 x4 : Value) : SS W (put5 w2 b x0 x1 x2 x3 x4) bN bA bB v0 v1 q a wy q' a' wy' :=
  midS hb hL hA hB (mid5 _ _ _ _ _ _ _) (below5 h.2.out hb _ _ _ _ _) h
end
theorem new_steps (w : World) (x y : Int) : StRow (w.alloc (.cells #[.int .i64 x, .int .i64 y] 37)) (some ⟨w.heap.size, 0, none⟩) [(x, y)] :=
  ⟨one_step' w x y, fun b o e => by
    obtain ⟨rfl, rfl⟩ : w.heap.size = b ∧ 0 = o := by simpa using e
    exact ⟨_, _, heap_alloc_new w _⟩⟩
theorem size5 (w : World) (b : Nat) (x0 x1 x2 x3 x4 : Value) : (put5 w b x0 x1 x2 x3 x4).heap.size = w.heap.size := by simp [World.setCell]
theorem own_a {W wU : World} {bN bA bB bC bz : Nat} {v0 v1 : Value} {q a wy q' a' wy' : Int} {x0 x1 x2 x3 : Int} {sv : Value} (hC : BoxC wU bC x0 x1 x2 x3 sv) (hS : SS W wU bN bA bB v0 v1 q a wy q' a' wy') (hZ : ZeroP wU bz) (hne : bz ≠ bC) (hb : W.heap.size ≤ bC) (hL : bN < W.heap.size) (hA : bA < W.heap.size) (hB : bB < W.heap.size) (f : Int) (x1' : Int) :
    BoxC ((put5 wU bC (.int .i64 q) (.int .i64 x1') (.int .i64 wy) (.int .i64 f) (.slice (some ⟨wU.heap.size, 0, none⟩) 1 1)).alloc (.cells #[.int .i64 q, .int .i64 wy] 37)) bC q x1' wy f (.slice (some ⟨wU.heap.size, 0, none⟩) 1 1) ∧
    StRow ((put5 wU bC (.int .i64 q) (.int .i64 x1') (.int .i64 wy) (.int .i64 f) (.slice (some ⟨wU.heap.size, 0, none⟩) 1 1)).alloc (.cells #[.int .i64 q, .int .i64 wy] 37)) (some ⟨wU.heap.size, 0, none⟩) [(q, wy)] ∧
    SS W ((put5 wU bC (.int .i64 q) (.int .i64 x1') (.int .i64 wy) (.int .i64 f) (.slice (some ⟨wU.heap.size, 0, none⟩) 1 1)).alloc (.cells #[.int .i64 q, .int .i64 wy] 37)) bN bA bB v0 v1 q a wy q' a' wy' ∧
    ZeroP ((put5 wU bC (.int .i64 q) (.int .i64 x1') (.int .i64 wy) (.int .i64 f) (.slice (some ⟨wU.heap.size, 0, none⟩) 1 1)).alloc (.cells #[.int .i64 q, .int .i64 wy] 37)) bz := by
  have hAl := (Below.refl (put5 wU bC (.int .i64 q) (.int .i64 x1') (.int .i64 wy) (.int .i64 f) (.slice (some ⟨wU.heap.size, 0, none⟩) 1 1)).heap.size (put5 wU bC (.int .i64 q) (.int .i64 x1') (.int .i64 wy) (.int .i64 f) (.slice (some ⟨wU.heap.size, 0, none⟩) 1 1))).alloc (Nat.le_refl _) (.cells #[.int .i64 q, .int .i64 wy] 37)
  refine ⟨(hC.put _ _ _ _ _).later hAl, ?_, keepS hAl (putS5 hb hL hA hB hS _ _ _ _ _), (hZ.mid (mid5 _ _ _ _ _ _ _) hne).later hAl⟩
  have h := new_steps (put5 wU bC (.int .i64 q) (.int .i64 x1') (.int .i64 wy) (.int .i64 f) (.slice (some ⟨wU.heap.size, 0, none⟩) 1 1)) q wy
  rw [size5] at h
  exact h
theorem own_p {W wU : World} {bN bA bB bC bz : Nat} {v0 v1 : Value} {q a wy q' a' wy' : Int} {x0 x1 x2 x3 : Int} {sv : Value} (hC : BoxC wU bC x0 x1 x2 x3 sv) (hS : SS W wU bN bA bB v0 v1 q a wy q' a' wy') (hZ : ZeroP wU bz) (hne : bz ≠ bC) (hb : W.heap.size ≤ bC) (hL : bN < W.heap.size) (hA : bA < W.heap.size) (hB : bB < W.heap.size) (f : Int) (x1' : Int) :
    BoxC (put5 (wU.alloc (.cells #[.int .i64 q, .int .i64 wy] 37)) bC (.int .i64 q) (.int .i64 x1') (.int .i64 wy) (.int .i64 f) (.slice (some ⟨wU.heap.size, 0, none⟩) 1 1)) bC q x1' wy f (.slice (some ⟨wU.heap.size, 0, none⟩) 1 1) ∧
    StRow (put5 (wU.alloc (.cells #[.int .i64 q, .int .i64 wy] 37)) bC (.int .i64 q) (.int .i64 x1') (.int .i64 wy) (.int .i64 f) (.slice (some ⟨wU.heap.size, 0, none⟩) 1 1)) (some ⟨wU.heap.size, 0, none⟩) [(q, wy)] ∧
    SS W (put5 (wU.alloc (.cells #[.int .i64 q, .int .i64 wy] 37)) bC (.int .i64 q) (.int .i64 x1') (.int .i64 wy) (.int .i64 f) (.slice (some ⟨wU.heap.size, 0, none⟩) 1 1)) bN bA bB v0 v1 q a wy q' a' wy' ∧
    ZeroP (put5 (wU.alloc (.cells #[.int .i64 q, .int .i64 wy] 37)) bC (.int .i64 q) (.int .i64 x1') (.int .i64 wy) (.int .i64 f) (.slice (some ⟨wU.heap.size, 0, none⟩) 1 1)) bz := by
  have hAl := (Below.refl wU.heap.size wU).alloc (Nat.le_refl _) (.cells #[.int .i64 q, .int .i64 wy] 37)
  have hC' := hC.later hAl
  exact ⟨hC'.put _ _ _ _ _, (new_steps wU q wy).mid (mid5 _ _ _ _ _ _ _) hC'.2.2, putS5 hb hL hA hB (keepS hAl hS) _ _ _ _ _, (hZ.later hAl).mid (mid5 _ _ _ _ _ _ _) hne⟩
theorem specShortest_any (a a' : Option Addr) (N : Nt) (cap cap' : Nat) (q at1 wy q' at2 wy' : Int) (w : World) (hright : netOk N = (0, 0)) (hs : spotP N q at1 wy = true) (hs' : spotP N q' at2 wy' = true) (hn : N.pcs.length ≤ 9) (hsz : ∀ p ∈ N.pcs, p.name.size ≤ 1048576) (hl : N.jts.length ≤ 1048576) (hm : ∀ j ∈ N.jts, j.name.size ≤ 1048576 ∧ j.ends.length ≤ 1048576) (hP : PcsAt w a N.pcs) (hJ : JtsAt w a' N.jts) :
    Calls Tryz.prog 7 #[.agg #[.slice a N.pcs.length cap, .slice a' N.jts.length cap'], .agg #[.int .i64 q, .int .i64 at1, .int .i64 wy], .agg #[.int .i64 q', .int .i64 at2, .int .i64 wy']] w fun e w' =>
    ∃ v, e = .returned v ∧ PathR N (shortP N hright q at1 wy q' at2 wy') v w' ∧ Below w.heap.size w w' := by
  have HP := hide hP
  have HJ := hide hJ
  have HR := hide hright
  have HS := hide hs
  have HS' := hide hs'
  have HM := hide hm
  have HME := hide (fun j (hj : j ∈ N.jts) => (HM.out j hj).2)
  have HSZ := hide hsz
  have HQ1 := hide (show spotOkP N q at1 wy = true by simp [spotOkP, hright, hs])
  have hwy := spot_way hs
  have hwy' := spot_way hs'
  have hrg : 0 ≤ q ∧ q < N.pcs.length ∧ 0 ≤ at1 ∧ at1 ≤ lenAt N q := by
    have h := hs
    simp only [spotP, inR, Bool.and_eq_true, decide_eq_true_eq] at h
    omega
  have hrg' : 0 ≤ q' ∧ q' < N.pcs.length ∧ 0 ≤ at2 ∧ at2 ≤ lenAt N q' := by
    have h := hs'
    simp only [spotP, inR, Bool.and_eq_true, decide_eq_true_eq] at h
    omega
  have hln := lenAt_pos hright q (by omega) (by omega)
  have hln' := lenAt_pos hright q' (by omega) (by omega)
  have hw1 : IntKind.i64.wrap (at2 - at1) = at2 - at1 := by rw [IntKind.wrap_i64]; omega
  have hw2 : IntKind.i64.wrap ((at2 - at1) * wy) = (at2 - at1) * wy := by
    rcases hwy with rfl | rfl <;> (rw [IntKind.wrap_i64]; omega)
  obtain ⟨kq, rfl⟩ := Int.eq_ofNat_of_zero_le hrg'.1
  have hkq : kq < N.pcs.length := by omega
  have hrb' := room_bd hs'
  have hlk : 1 ≤ N.pcs[kq].len ∧ N.pcs[kq].len ≤ 10000000 := by rw [← lenAt_nat N kq hkq]; omega
  have hx3 : IntKind.i64.wrap (lenAt N kq - at2) = lenAt N kq - at2 := by rw [IntKind.wrap_i64]; omega
  have hx4 : IntKind.i64.wrap (N.pcs[kq].len - at2) = N.pcs[kq].len - at2 := by rw [← lenAt_nat N kq hkq]; exact hx3
  clear hP hJ hm hsz hs hs' hx3
  go_enter Tryz.func7, Tryz.ntmps7
  have HS4 : Hid (SS ((((w.alloc (.cells #[.slice a N.pcs.length cap, .slice a' N.jts.length cap'] 26)).alloc (.cells #[.int .i64 q, .int .i64 at1, .int .i64 wy] 29)).alloc (.cells #[.int .i64 kq, .int .i64 at2, .int .i64 wy'] 29)).alloc (.cells #[.bool false, .int .i64 0, .slice none 0 0, .slice none 0 0] 34)) ((((w.alloc (.cells #[.slice a N.pcs.length cap, .slice a' N.jts.length cap'] 26)).alloc (.cells #[.int .i64 q, .int .i64 at1, .int .i64 wy] 29)).alloc (.cells #[.int .i64 kq, .int .i64 at2, .int .i64 wy'] 29)).alloc (.cells #[.bool false, .int .i64 0, .slice none 0 0, .slice none 0 0] 34)) w.heap.size (w.heap.size + 1) (w.heap.size + 1 + 1) (.slice a N.pcs.length cap) (.slice a' N.jts.length cap') q at1 wy kq at2 wy') :=
    ⟨⟨by simp [go_sem], by simp [go_sem], by simp [go_sem], by simp [go_sem], by simp [go_sem], by simp [go_sem], by simp [go_sem], by simp [go_sem]⟩, Below.refl _ _⟩
  have HZ4 : Hid (ZeroP ((((w.alloc (.cells #[.slice a N.pcs.length cap, .slice a' N.jts.length cap'] 26)).alloc (.cells #[.int .i64 q, .int .i64 at1, .int .i64 wy] 29)).alloc (.cells #[.int .i64 kq, .int .i64 at2, .int .i64 wy'] 29)).alloc (.cells #[.bool false, .int .i64 0, .slice none 0 0, .slice none 0 0] 34)) (w.heap.size + 1 + 1 + 1)) := by
    show ZeroP _ _
    have h := ZeroP.new (((w.alloc (.cells #[.slice a N.pcs.length cap, .slice a' N.jts.length cap'] 26)).alloc (.cells #[.int .i64 q, .int .i64 at1, .int .i64 wy] 29)).alloc (.cells #[.int .i64 kq, .int .i64 at2, .int .i64 wy'] 29))
    simpa only [World.size_alloc] using h
  have HB4 : Hid (Below w.heap.size w ((((w.alloc (.cells #[.slice a N.pcs.length cap, .slice a' N.jts.length cap'] 26)).alloc (.cells #[.int .i64 q, .int .i64 at1, .int .i64 wy] 29)).alloc (.cells #[.int .i64 kq, .int .i64 at2, .int .i64 wy'] 29)).alloc (.cells #[.bool false, .int .i64 0, .slice none 0 0, .slice none 0 0] 34))) := (((((Below.refl _ _).alloc (Nat.le_refl _) _).alloc (by simp) _).alloc (by simp; omega) _).alloc (by simp; omega) _)
  go_upto_region 1 with fail
  generalize ((((w.alloc (.cells #[.slice a N.pcs.length cap, .slice a' N.jts.length cap'] 26)).alloc (.cells #[.int .i64 q, .int .i64 at1, .int .i64 wy] 29)).alloc (.cells #[.int .i64 kq, .int .i64 at2, .int .i64 wy'] 29)).alloc (.cells #[.bool false, .int .i64 0, .slice none 0 0, .slice none 0 0] 34)) = w4 at *
  have hz4 := cell_lt HZ4.out.1.1
  obtain ⟨⟨n0, n1, a0, a1, a2, b0, b1, b2⟩, _⟩ := HS4.out
  go_wp2_with fail
  refine (specSpotOk_any a a' N cap cap' q at1 wy _ (by omega) HSZ.out hl HM.out (HP.out.later HB4.out) (HJ.out.later HB4.out)).mono ?_
  rintro e w5 ⟨rfl, hb5⟩
  rw [HQ1.out]
  have HS5 := hide (rebaseS (keepS hb5 HS4.out))
  have HZ5 := hide (HZ4.out.later hb5)
  have HB5 := hide (HB4.out.trans (hb5.mono HB4.out.size))
  have hs5 := hb5.size
  clear HS4 HZ4 HB4 hb5 n0 n1 a0 a1 a2 b0 b1 b2
  obtain ⟨⟨n0, n1, a0, a1, a2, b0, b1, b2⟩, _⟩ := HS5.out
  go_wp2_with fail
  refine (l3spot_any a a' N cap cap' kq at2 wy' _ (by omega) (HP.out.later HB5.out)).mono ?_
  rintro e w6 ⟨rfl, hb6⟩
  rw [HS'.out]
  have HS6 := hide (rebaseS (keepS hb6 HS5.out))
  have HZ6 := hide (HZ5.out.later hb6)
  have HB6 := hide (HB5.out.trans (hb6.mono HB5.out.size))
  have hs6 := hb6.size
  clear HS5 HZ5 HB5 hb6 n0 n1 a0 a1 a2 b0 b1 b2
  have h6L : w.heap.size < w6.heap.size := by omega
  have h6A : w.heap.size + 1 < w6.heap.size := by omega
  have h6B : w.heap.size + 1 + 1 < w6.heap.size := by omega
  have h6Z : w.heap.size + 1 + 1 + 1 < w6.heap.size := by omega
  have hAl := (Below.refl w6.heap.size w6).alloc (Nat.le_refl _) (.cells #[.int .i64 0, .int .i64 0, .int .i64 0, .int .i64 0, .slice none 0 0] 71)
  have HS7 := hide (keepS hAl HS6.out)
  have HZ7 := hide (HZ6.out.later hAl)
  have HB7 := hide (HB6.out.trans (hAl.mono HB6.out.size))
  have HC7 := hide (BoxC.new w6 0 0 0 0 (.slice none 0 0))
  clear hAl
  go_upto_region 5 with fail
  generalize w6.alloc (.cells #[.int .i64 0, .int .i64 0, .int .i64 0, .int .i64 0, .slice none 0 0] 71) = w7 at *
  generalize hbC : w6.heap.size = bC at *
  obtain ⟨own, hown⟩ : ∃ own : Bool, own = decide ((q, wy) = ((kq : Int), wy') ∧ 0 ≤ (at2 - at1) * wy) := ⟨_, rfl⟩
  have HOWN := hide hown
  clear hown
  go_cut [46] from 13 to 110 (fun s46 wx => s46 = .bool own ∧ w7 = wx)
  case first =>
    obtain ⟨⟨_, _, a0, a1, a2, b0, b1, b2⟩, _⟩ := HS7.out
    by_cases hq : q = kq
    · by_cases hw : wy = wy'
      · have q1 : (q == (kq : Int)) = true := by rw [beq_iff_eq]; exact hq
        have q2 : (wy == wy') = true := by rw [beq_iff_eq]; exact hw
        have HO2 := hide (show decide (0 ≤ (at2 - at1) * wy) = own by rw [HOWN.out]; simp [hq, hw])
        clear hq hw
        go_wp2_with fail
        go_meet
        case rel => exact ⟨by rw [← HO2.out], rfl⟩
      · have q1 : (q == (kq : Int)) = true := by rw [beq_iff_eq]; exact hq
        have q2 : (wy == wy') = false := by rw [beq_eq_false_iff_ne]; exact hw
        have HO2 := hide (show false = own by rw [HOWN.out]; simp [hw])
        clear hq hw
        go_wp2_with fail
        go_meet
        case rel => exact ⟨by rw [← HO2.out], rfl⟩
    · have q1 : (q == (kq : Int)) = false := by rw [beq_eq_false_iff_ne]; exact hq
      have HO2 := hide (show false = own by rw [HOWN.out]; simp [hq])
      clear hq
      go_wp2_with fail
      go_meet
      case rel => exact ⟨by rw [← HO2.out], rfl⟩
  case rest =>
    obtain ⟨rfl, hwx⟩ := hcut
    subst hwx
    have hC7 := cell_lt HC7.out.1.1
    cases own with
    | true =>
      have hc : (q, wy) = ((kq : Int), wy') ∧ 0 ≤ (at2 - at1) * wy := of_decide_eq_true HOWN.out.symm
      have HEQ := hide hc.1
      have HX := hide (show shortP N hright q at1 wy kq at2 wy' = some ⟨(at2 - at1) * wy, [(q, wy)]⟩ by unfold shortP; rw [if_pos hc])
      have HXT := hide (show stepsP N [(q, wy)] = true by simp [stepsP, spot_step HS.out])
      obtain ⟨e1, e2⟩ := Prod.mk.inj hc.1
      have HE1 := hide e1
      have HE2 := hide e2
      clear hc e1 e2
      go_upto_region 6 with fail
      have HK1 := hide (keepS ((Below.refl w7.heap.size w7).drew) HS7.out)
      go_cut [8] from 13 to 110 (fun s8 wz => s8 = .bool false ∧ ∃ z, Hid (BoxC wz bC q at2 wy ((at2 - at1) * wy) (.slice z 1 1)) ∧ Hid (StRow wz z [(q, wy)]) ∧ Hid (SS w6 wz w.heap.size (w.heap.size + 1) (w.heap.size + 1 + 1) (.slice a N.pcs.length cap) (.slice a' N.jts.length cap') q at1 wy q at2 wy) ∧ Hid (ZeroP wz (w.heap.size + 1 + 1 + 1)))
      case first =>
        rw [← HE1.out, ← HE2.out] at HK1
        go_region_held3 (fun wx => SS w6 wx w.heap.size (w.heap.size + 1) (w.heap.size + 1 + 1) (.slice a N.pcs.length cap) (.slice a' N.jts.length cap') q at1 wy q at2 wy)
          (first
            | (with_reducible exact HK1.out)
            | (with_reducible exact HGU.out)
            | (with_reducible exact HGUa.out)
            | (with_reducible exact HOA.out.2.2.1)
            | (with_reducible exact HOP.out.2.2.1))
          (first
            | (go_at_call 26; refine (l4step_any q at1 wy _).mono ?_; rintro e wU ⟨rfl, hbU⟩; have HGU : Hid (SS w6 wU w.heap.size (w.heap.size + 1) (w.heap.size + 1 + 1) (.slice a N.pcs.length cap) (.slice a' N.jts.length cap') q at1 wy q at2 wy) := keepS hbU (by assumption); have HGUa := hide (keepS ((Below.refl wU.heap.size wU).alloc (Nat.le_refl _) (.cells #[.int .i64 q, .int .i64 wy] 37)) HGU.out); have HCU := hide (HC7.out.later (((Below.refl w7.heap.size w7).drew).trans hbU)); have HZU := hide (HZ7.out.later (((Below.refl w7.heap.size w7).drew).trans hbU)); have HOA := hide (own_a HCU.out HGU.out HZU.out (by omega) (by omega) (by omega) (by omega) (by omega) ((at2 - at1) * wy) at2); have HOP := hide (own_p HCU.out HGU.out HZU.out (by omega) (by omega) (by omega) (by omega) (by omega) ((at2 - at1) * wy) at2); obtain ⟨⟨c0, c1, c2, c3, c4⟩, fz, _⟩ := HCU.out; have f0 := fz 0; have f1 := fz 1; have f2 := fz 2; have f3 := fz 3; have f4 := fz 4; have hcl0 := cell_lt c0; clear fz hbU))
        all_goals
          obtain ⟨p1, p2, p3, p4⟩ := HOA.out
          obtain ⟨r1, r2, r3, r4⟩ := HOP.out
          have P1 := hide p1
          have P2 := hide p2
          have P3 := hide p3
          have P4 := hide p4
          have R1 := hide r1
          have R2 := hide r2
          have R3 := hide r3
          have R4 := hide r4
          clear p1 p2 p3 p4 r1 r2 r3 r4
          go_wp2_with fail
          go_meet
          case rel => first | exact ⟨rfl, _, P1, P2, P3, P4⟩ | exact ⟨rfl, _, R1, R2, R3, R4⟩
      case rest =>
        obtain ⟨rfl, z, HC8, HR8, HS8', HZ8⟩ := hcut
        rename World => w8
        have HS8 := hide (show SS w6 w8 w.heap.size (w.heap.size + 1) (w.heap.size + 1 + 1) (.slice a N.pcs.length cap) (.slice a' N.jts.length cap') q at1 wy kq at2 wy' by
          have h := HS8'.out
          rw [← HE1.out, ← HE2.out]
          exact h)
        clear HS8'
        have HB8 := hide (HB6.out.trans ((heldS HS8.out).mono HB6.out.size))
        clear HS7 HZ7 HB7 HC7 HK1
        rcases hwy' with rfl | rfl
        · obtain ⟨⟨n0, n1, a0, a1, a2, b0, b1, b2⟩, _⟩ := HS8.out
          go_wp2_with fail
          refine (l4from_any a a' N cap cap' q at1 wy _ HR.out hn hl HME.out HS.out (HP.out.later HB8.out) (HJ.out.later HB8.out)).mono ?_
          rintro e w9 ⟨bB, bl, rfl, hOB, hBL, hRS, hb9⟩
          have HS9 := hide (keepS hb9 HS8.out)
          have HZ9 := hide (HZ8.out.later hb9)
          have HC9 := hide (HC8.out.later hb9)
          have HB9 := hide (HB8.out.trans (hb9.mono HB8.out.size))
          have HR9 := hide (HR8.out.later hb9)
          have hbl := hBL (2 * kq) (by omega)
          rw [show stepAt (2 * kq) = ((kq : Int), 1) from wayV_step kq 0 (by omega)] at hbl
          have hix : ((2 * kq : Nat) : Int) < ((2 * N.pcs.length : Nat) : Int) := by omega
          have HVI := hide (show lenAt N kq - roomP N kq at2 1 = at2 by unfold roomP; rw [if_pos rfl]; omega)
          have hx2 : IntKind.i64.wrap (2 * (kq : Int)) = ((2 * kq : Nat) : Int) := by rw [IntKind.wrap_i64]; omega
          skip
          have hx5 : IntKind.i64.wrap (((2 * kq : Nat) : Int) + 0) = ((2 * kq : Nat) : Int) := by rw [IntKind.wrap_i64]; omega
          have hx6 : IntKind.i64.wrap ((2 * kq : Nat) : Int) = ((2 * kq : Nat) : Int) := by rw [IntKind.wrap_i64]; omega
          have HOB := hide hOB
          have HRS := hide hRS
          clear hBL hOB hRS hb9 HS8 HZ8 HC8 HB8 n0 n1 a0 a1 a2 b0 b1 b2
          generalize hpp : 2 * kq = p at *
          generalize hnn : 2 * N.pcs.length = n2 at *
          obtain ⟨⟨n0, n1, a0, a1, a2, b0, b1, b2⟩, _⟩ := HS9.out
          rcases hbl with ⟨hL0, hbp⟩ | ⟨ci, hL0, hbp⟩
          · obtain ⟨c0', c1', c2', c3', c4'⟩ := cfs_at HOB.out hbp
            have hcl := cell_lt c0'
            have hAl := (Below.refl w9.heap.size w9).alloc (Nat.le_refl _) (.cells #[.int .i64 (lastS cN.y).1, .int .i64 cN.a, .int .i64 (lastS cN.y).2, .int .i64 (-1), .slice cN.z cN.y.ss.length cN.c] 71)
            have hfar : cN.y.far = -1 := rfl
            rw [hfar] at c3'
            clear hfar
            have HXS := hide (keepS hAl HS9.out)
            have HXZ := hide (HZ9.out.later hAl)
            have HXC := hide (HC9.out.later hAl)
            have HXB := hide (HB9.out.trans (hAl.mono HB9.out.size))
            have HXR := hide (HR9.out.later hAl)
            clear hbp hL0 hAl
            have hsx := HB9.out.size
            go_upto_region 21 with fail
            clear c0' c1' c2' c3' c4' n0 n1 a0 a1 a2 b0 b1 b2
            generalize w9.alloc (.cells #[.int .i64 (lastS cN.y).1, .int .i64 cN.a, .int .i64 (lastS cN.y).2, .int .i64 (-1), .slice cN.z cN.y.ss.length cN.c] 71) = w10 at *
            obtain ⟨⟨n0, n1, _, _, _, _, _, _⟩, _⟩ := HXS.out
            obtain ⟨⟨c0, c1, c2, c3, c4⟩, _⟩ := HXC.out
            go_wp2_with fail
            refine (l4path_any a a' z N cap cap' 1 (q) (at2) (wy) ((at2 - at1) * wy) [(q, wy)] _ (by omega) hl HME.out HR.out HXT.out (HJ.out.later HXB.out) HXR.out).mono ?_
            rintro e w20 ⟨zl, cl, rfl, hLE, hGE, hL4, hb20⟩
            obtain ⟨⟨z0, z1, z2, z3⟩, fz, hT⟩ := HXZ.out.later hb20
            have f0 := fz 0
            have f1 := fz 1
            have f2 := fz 2
            have f3 := fz 3
            have hz6 := cell_lt z0
            have hxz := cell_lt HXZ.out.1.1
            have HB21 := hide (below4 (b := w.heap.size + 1 + 1 + 1) (HXB.out.trans (hb20.mono HXB.out.size)) (by omega) (.bool true) (.int .i64 ((at2 - at1) * wy)) (.slice z 1 1) (.slice zl ((liesQ N [(q, wy)]).getD []).length cl))
            have hmd := mid4 w20 (w.heap.size + 1 + 1 + 1) (.bool true) (.int .i64 ((at2 - at1) * wy)) (.slice z 1 1) (.slice zl ((liesQ N [(q, wy)]).getD []).length cl)
            have HLF := hide (ends_mid hLE hmd (fun b o e => by
              have h := hGE b o e
              omega))
            have HSF := hide ((HXR.out.later hb20).mid hmd hT).1
            clear hmd fz hT hLE hGE hb20 n0 n1 c0 c1 c2 c3 c4
            go_wp2_with fail
            exact bodyPost_ret (v := .agg #[.bool true, .int .i64 ((at2 - at1) * wy), .slice z 1 1, .slice zl ((liesQ N [(q, wy)]).getD []).length cl]) (by simp [results, Tryz.results7, go_sem, z0, z1, z2, z3]) rfl ⟨_, rfl, .inr ⟨_, z, 1, zl, cl, HX.out, rfl, HSF.out, HLF.out, hL4⟩, HB21.out⟩
          · obtain ⟨c0', c1', c2', c3', c4'⟩ := cfs_at HOB.out hbp
            have hcl := cell_lt c0'
            have HRC := hide (HRS.out ci (List.mem_of_getElem? hbp))
            have hfar : 0 ≤ ci.y.far ∧ ci.y.far ≤ 1000000000 := by
              have hrb := room_bd HS.out
              have h1 := (bestO_way hL0).way.far_le ⟨hrb.1, by omega⟩
              have h2 := bestO_short hrb.1 hL0
              have h3 : (grN N hright).n = N.pcs.length := rfl
              rw [h3] at h2
              omega
            have hfl := hfar.1
            have HLS := hide (show lessW ⟨ci.y.far + at2, ci.y.ss⟩ ⟨(at2 - at1) * wy, [(q, wy)]⟩ = false by
              have h1 := WayR.room_le (room_bd HS.out).1 (bestO_way hL0).way (bestO_way hL0).two
              have h2 := (bestO_way hL0).two
              have h3 := room_diff (N := N) (q := q) (a := at1) (a' := at2) hwy
              have h4 := room_bd HS'.out
              have h5 := room_bd HS.out
              obtain ⟨e1, e2⟩ := Prod.mk.inj HEQ.out
              subst e1
              subst e2
              have h6 := HVI.out
              rw [← h6]
              unfold lessW
              dsimp only
              split
              · rw [if_neg (by simp; omega)]
                simp
                omega
              · rw [decide_eq_false_iff_not]
                omega)
            have hcs : ci.y.ss.length ≤ 1048576 := by
              have h2 := bestO_short (room_bd HS.out).1 hL0
              have h3 : (grN N hright).n = N.pcs.length := rfl
              rw [h3] at h2
              omega
            generalize lastS ci.y = ls at *
            obtain ⟨ls1, ls2⟩ := ls
            obtain ⟨⟨cf, cs⟩, ca, cz, cc⟩ := ci
            dsimp only at *
            have hAl := (Below.refl w9.heap.size w9).alloc (Nat.le_refl _) (.cells #[.int .i64 ls1, .int .i64 ca, .int .i64 ls2, .int .i64 cf, .slice cz cs.length cc] 71)
            have HS10 := hide (keepS hAl HS9.out)
            have HZ10 := hide (HZ9.out.later hAl)
            have HC10 := hide (HC9.out.later hAl)
            have HB10 := hide (HB9.out.trans (hAl.mono HB9.out.size))
            have HD10 := hide (BoxC.new w9 ls1 ca ls2 cf (.slice cz cs.length cc))
            have HRC10 := hide (HRC.out.later hAl)
            have HR10 := hide (HR9.out.later hAl)
            have hcz := cell_lt HC9.out.1.1
            have hzz := cell_lt HZ9.out.1.1
            have hzl := cell_lt n0
            have hza := cell_lt a0
            have hzb := cell_lt b0
            have hs69 := (heldS HS9.out).size
            clear hbp hL0 hAl
            go_upto_region 14 with fail
            clear c0' c1' c2' c3' c4' n0 n1 a0 a1 a2 b0 b1 b2
            generalize w9.alloc (.cells #[.int .i64 ls1, .int .i64 ca, .int .i64 ls2, .int .i64 cf, .slice cz cs.length cc] 71) = w10 at *
            generalize w9.heap.size = bD at *
            have HS11 := HS10
            have HZ11 := HZ10
            have HC11 := HC10
            have HB11 := HB10
            have HD11 := HD10
            have HRC11 := HRC10
            have HR11 := HR10
            clear HS10 HZ10 HC10 HB10 HD10 HRC10
            generalize w10 = w11 at *
            obtain ⟨⟨_, _, _, _, _, b0, b1, b2⟩, _⟩ := HS11.out
            have hmd := Mid.set1 (w := w11) (g := bD) (o := 3) (.int .i64 (cf + at2))
            have HS12 := hide (putS1 (b := bD) (by omega) (by omega) (by omega) (by omega) (o := 3) HS11.out (.int .i64 (cf + at2)))
            have HZ12 := hide (HZ11.out.mid hmd (by omega))
            have HC12 := hide (HC11.out.mid hmd (by omega))
            have HB12 := hide (HB11.out.setCell (p := ⟨bD, 3, none⟩) (show w.heap.size ≤ bD by omega) (.int .i64 (cf + at2)))
            have HD12 := hide (HD11.out.put3 (cf + at2))
            have HRC12 := hide (HRC11.out.mid hmd HD11.out.2.2)
            have HR12 := hide (HR11.out.mid hmd HD11.out.2.2)
            obtain ⟨⟨d0, d1, d2, d3, d4⟩, fz, _⟩ := HD11.out
            have f3 := fz 3
            have hdl := cell_lt d0
            have hwf : IntKind.i64.wrap (cf + at2) = cf + at2 := by rw [IntKind.wrap_i64]; omega
            clear hmd fz HS11 HZ11 HC11 HB11 HRC11
            go_upto_region 18 with fail
            clear d0 d1 d2 d3 d4 f3 HD11
            generalize w11.setCell ⟨bD, 3, none⟩ (.int .i64 (cf + at2)) = w12 at *
            obtain ⟨⟨d0, d1, d2, d3, d4⟩, _⟩ := HD12.out
            obtain ⟨⟨c0, c1, c2, c3, c4⟩, fc, _⟩ := HC12.out
            have hcl2 := cell_lt c0
            have hdl2 := cell_lt d0
            clear fc
            go_wp2_with fail
            refine (l4less_any cz z cc 1 ls1 ca ls2 q at2 wy ⟨cf + at2, cs⟩ ⟨(at2 - at1) * wy, [(q, wy)]⟩ _ hcs HRC12.out.1 HR12.out.1).mono ?_
            rintro e w13 ⟨rfl, hb13⟩
            rw [HLS.out]
            have HXS := hide (keepS hb13 HS12.out)
            have HXZ := hide (HZ12.out.later hb13)
            have HXC := hide (HC12.out.later hb13)
            have HXB := hide (HB12.out.trans (hb13.mono HB12.out.size))
            have HXR := hide (HR12.out.later hb13)
            clear hb13 c0 c1 c2 c3 c4 d0 d1 d2 d3 d4
            obtain ⟨⟨n0, n1, _, _, _, _, _, _⟩, _⟩ := HXS.out
            obtain ⟨⟨c0, c1, c2, c3, c4⟩, _⟩ := HXC.out
            go_wp2_with fail
            refine (l4path_any a a' z N cap cap' 1 (q) (at2) (wy) ((at2 - at1) * wy) [(q, wy)] _ (by omega) hl HME.out HR.out HXT.out (HJ.out.later HXB.out) HXR.out).mono ?_
            rintro e w20 ⟨zl, cl, rfl, hLE, hGE, hL4, hb20⟩
            obtain ⟨⟨z0, z1, z2, z3⟩, fz, hT⟩ := HXZ.out.later hb20
            have f0 := fz 0
            have f1 := fz 1
            have f2 := fz 2
            have f3 := fz 3
            have hz6 := cell_lt z0
            have hxz := cell_lt HXZ.out.1.1
            have HB21 := hide (below4 (b := w.heap.size + 1 + 1 + 1) (HXB.out.trans (hb20.mono HXB.out.size)) (by omega) (.bool true) (.int .i64 ((at2 - at1) * wy)) (.slice z 1 1) (.slice zl ((liesQ N [(q, wy)]).getD []).length cl))
            have hmd := mid4 w20 (w.heap.size + 1 + 1 + 1) (.bool true) (.int .i64 ((at2 - at1) * wy)) (.slice z 1 1) (.slice zl ((liesQ N [(q, wy)]).getD []).length cl)
            have HLF := hide (ends_mid hLE hmd (fun b o e => by
              have h := hGE b o e
              omega))
            have HSF := hide ((HXR.out.later hb20).mid hmd hT).1
            clear hmd fz hT hLE hGE hb20 n0 n1 c0 c1 c2 c3 c4
            go_wp2_with fail
            exact bodyPost_ret (v := .agg #[.bool true, .int .i64 ((at2 - at1) * wy), .slice z 1 1, .slice zl ((liesQ N [(q, wy)]).getD []).length cl]) (by simp [results, Tryz.results7, go_sem, z0, z1, z2, z3]) rfl ⟨_, rfl, .inr ⟨_, z, 1, zl, cl, HX.out, rfl, HSF.out, HLF.out, hL4⟩, HB21.out⟩
        · obtain ⟨⟨n0, n1, a0, a1, a2, b0, b1, b2⟩, _⟩ := HS8.out
          go_wp2_with fail
          refine (l4from_any a a' N cap cap' q at1 wy _ HR.out hn hl HME.out HS.out (HP.out.later HB8.out) (HJ.out.later HB8.out)).mono ?_
          rintro e w9 ⟨bB, bl, rfl, hOB, hBL, hRS, hb9⟩
          have HS9 := hide (keepS hb9 HS8.out)
          have HZ9 := hide (HZ8.out.later hb9)
          have HC9 := hide (HC8.out.later hb9)
          have HB9 := hide (HB8.out.trans (hb9.mono HB8.out.size))
          have HR9 := hide (HR8.out.later hb9)
          have hbl := hBL (2 * kq + 1) (by omega)
          rw [show stepAt (2 * kq + 1) = ((kq : Int), (-1)) from wayV_step kq 1 (by omega)] at hbl
          have hix : ((2 * kq + 1 : Nat) : Int) < ((2 * N.pcs.length : Nat) : Int) := by omega
          have HVI := hide (show lenAt N kq - roomP N kq at2 (-1) = (N.pcs[kq].len - at2) by unfold roomP; rw [if_neg (by decide), lenAt_nat N kq hkq])
          have hx2 : IntKind.i64.wrap (2 * (kq : Int) + 1) = ((2 * kq + 1 : Nat) : Int) := by rw [IntKind.wrap_i64]; omega
          have hx1 : IntKind.i64.wrap (2 * (kq : Int)) = 2 * (kq : Int) := by rw [IntKind.wrap_i64]; omega
          have hx5 : IntKind.i64.wrap (((2 * kq + 1 : Nat) : Int) + 0) = ((2 * kq + 1 : Nat) : Int) := by rw [IntKind.wrap_i64]; omega
          have hx6 : IntKind.i64.wrap ((2 * kq + 1 : Nat) : Int) = ((2 * kq + 1 : Nat) : Int) := by rw [IntKind.wrap_i64]; omega
          have HOB := hide hOB
          have HRS := hide hRS
          clear hBL hOB hRS hb9 HS8 HZ8 HC8 HB8 n0 n1 a0 a1 a2 b0 b1 b2
          generalize hpp : 2 * kq + 1 = p at *
          generalize hnn : 2 * N.pcs.length = n2 at *
          obtain ⟨⟨n0, n1, a0, a1, a2, b0, b1, b2⟩, _⟩ := HS9.out
          rcases hbl with ⟨hL0, hbp⟩ | ⟨ci, hL0, hbp⟩
          · obtain ⟨c0', c1', c2', c3', c4'⟩ := cfs_at HOB.out hbp
            have hcl := cell_lt c0'
            have hAl := (Below.refl w9.heap.size w9).alloc (Nat.le_refl _) (.cells #[.int .i64 (lastS cN.y).1, .int .i64 cN.a, .int .i64 (lastS cN.y).2, .int .i64 (-1), .slice cN.z cN.y.ss.length cN.c] 71)
            have hfar : cN.y.far = -1 := rfl
            rw [hfar] at c3'
            clear hfar
            have HXS := hide (keepS hAl HS9.out)
            have HXZ := hide (HZ9.out.later hAl)
            have HXC := hide (HC9.out.later hAl)
            have HXB := hide (HB9.out.trans (hAl.mono HB9.out.size))
            have HXR := hide (HR9.out.later hAl)
            clear hbp hL0 hAl
            have hsx := HB9.out.size
            go_upto_region 21 with fail
            clear c0' c1' c2' c3' c4' n0 n1 a0 a1 a2 b0 b1 b2
            generalize w9.alloc (.cells #[.int .i64 (lastS cN.y).1, .int .i64 cN.a, .int .i64 (lastS cN.y).2, .int .i64 (-1), .slice cN.z cN.y.ss.length cN.c] 71) = w10 at *
            obtain ⟨⟨n0, n1, _, _, _, _, _, _⟩, _⟩ := HXS.out
            obtain ⟨⟨c0, c1, c2, c3, c4⟩, _⟩ := HXC.out
            go_wp2_with fail
            refine (l4path_any a a' z N cap cap' 1 (q) (at2) (wy) ((at2 - at1) * wy) [(q, wy)] _ (by omega) hl HME.out HR.out HXT.out (HJ.out.later HXB.out) HXR.out).mono ?_
            rintro e w20 ⟨zl, cl, rfl, hLE, hGE, hL4, hb20⟩
            obtain ⟨⟨z0, z1, z2, z3⟩, fz, hT⟩ := HXZ.out.later hb20
            have f0 := fz 0
            have f1 := fz 1
            have f2 := fz 2
            have f3 := fz 3
            have hz6 := cell_lt z0
            have hxz := cell_lt HXZ.out.1.1
            have HB21 := hide (below4 (b := w.heap.size + 1 + 1 + 1) (HXB.out.trans (hb20.mono HXB.out.size)) (by omega) (.bool true) (.int .i64 ((at2 - at1) * wy)) (.slice z 1 1) (.slice zl ((liesQ N [(q, wy)]).getD []).length cl))
            have hmd := mid4 w20 (w.heap.size + 1 + 1 + 1) (.bool true) (.int .i64 ((at2 - at1) * wy)) (.slice z 1 1) (.slice zl ((liesQ N [(q, wy)]).getD []).length cl)
            have HLF := hide (ends_mid hLE hmd (fun b o e => by
              have h := hGE b o e
              omega))
            have HSF := hide ((HXR.out.later hb20).mid hmd hT).1
            clear hmd fz hT hLE hGE hb20 n0 n1 c0 c1 c2 c3 c4
            go_wp2_with fail
            exact bodyPost_ret (v := .agg #[.bool true, .int .i64 ((at2 - at1) * wy), .slice z 1 1, .slice zl ((liesQ N [(q, wy)]).getD []).length cl]) (by simp [results, Tryz.results7, go_sem, z0, z1, z2, z3]) rfl ⟨_, rfl, .inr ⟨_, z, 1, zl, cl, HX.out, rfl, HSF.out, HLF.out, hL4⟩, HB21.out⟩
          · obtain ⟨c0', c1', c2', c3', c4'⟩ := cfs_at HOB.out hbp
            have hcl := cell_lt c0'
            have HRC := hide (HRS.out ci (List.mem_of_getElem? hbp))
            have hfar : 0 ≤ ci.y.far ∧ ci.y.far ≤ 1000000000 := by
              have hrb := room_bd HS.out
              have h1 := (bestO_way hL0).way.far_le ⟨hrb.1, by omega⟩
              have h2 := bestO_short hrb.1 hL0
              have h3 : (grN N hright).n = N.pcs.length := rfl
              rw [h3] at h2
              omega
            have hfl := hfar.1
            have HLS := hide (show lessW ⟨ci.y.far + (N.pcs[kq].len - at2), ci.y.ss⟩ ⟨(at2 - at1) * wy, [(q, wy)]⟩ = false by
              have h1 := WayR.room_le (room_bd HS.out).1 (bestO_way hL0).way (bestO_way hL0).two
              have h2 := (bestO_way hL0).two
              have h3 := room_diff (N := N) (q := q) (a := at1) (a' := at2) hwy
              have h4 := room_bd HS'.out
              have h5 := room_bd HS.out
              obtain ⟨e1, e2⟩ := Prod.mk.inj HEQ.out
              subst e1
              subst e2
              have h6 := HVI.out
              rw [← h6]
              unfold lessW
              dsimp only
              split
              · rw [if_neg (by simp; omega)]
                simp
                omega
              · rw [decide_eq_false_iff_not]
                omega)
            have hcs : ci.y.ss.length ≤ 1048576 := by
              have h2 := bestO_short (room_bd HS.out).1 hL0
              have h3 : (grN N hright).n = N.pcs.length := rfl
              rw [h3] at h2
              omega
            generalize lastS ci.y = ls at *
            obtain ⟨ls1, ls2⟩ := ls
            obtain ⟨⟨cf, cs⟩, ca, cz, cc⟩ := ci
            dsimp only at *
            have hAl := (Below.refl w9.heap.size w9).alloc (Nat.le_refl _) (.cells #[.int .i64 ls1, .int .i64 ca, .int .i64 ls2, .int .i64 cf, .slice cz cs.length cc] 71)
            have HS10 := hide (keepS hAl HS9.out)
            have HZ10 := hide (HZ9.out.later hAl)
            have HC10 := hide (HC9.out.later hAl)
            have HB10 := hide (HB9.out.trans (hAl.mono HB9.out.size))
            have HD10 := hide (BoxC.new w9 ls1 ca ls2 cf (.slice cz cs.length cc))
            have HRC10 := hide (HRC.out.later hAl)
            have HR10 := hide (HR9.out.later hAl)
            have hcz := cell_lt HC9.out.1.1
            have hzz := cell_lt HZ9.out.1.1
            have hzl := cell_lt n0
            have hza := cell_lt a0
            have hzb := cell_lt b0
            have hs69 := (heldS HS9.out).size
            clear hbp hL0 hAl
            go_upto_region 14 with fail
            clear c0' c1' c2' c3' c4' n0 n1 a0 a1 a2 b0 b1 b2
            generalize w9.alloc (.cells #[.int .i64 ls1, .int .i64 ca, .int .i64 ls2, .int .i64 cf, .slice cz cs.length cc] 71) = w10 at *
            generalize w9.heap.size = bD at *
            obtain ⟨⟨n0, n1, _, _, _, b0, b1, b2⟩, _⟩ := HS10.out
            obtain ⟨pb, poff, hpa, p0, p1, p2, p3⟩ := HP.out.later HB10.out kq hkq
            have HPA := hide hpa
            have hpl := cell_lt p0
            rw [hpa] at n0
            clear hpa
            go_upto_region 16 with fail
            go_quiet (fail)
            have HQB := hide (below_drewN (Below.refl w10.heap.size w10) nq)
            generalize w10.drewN nq = w11 at *
            have HS11 := hide (keepS HQB.out HS10.out)
            have HZ11 := hide (HZ10.out.later HQB.out)
            have HC11 := hide (HC10.out.later HQB.out)
            have HB11 := hide (HB10.out.trans (HQB.out.mono HB10.out.size))
            have HD11 := hide (HD10.out.later HQB.out)
            have HRC11 := hide (HRC10.out.later HQB.out)
            have HR11 := hide (HR10.out.later HQB.out)
            clear HS10 HZ10 HC10 HB10 HD10 HRC10 HQB n0 n1 b0 b1 b2 p0 p1 p2 p3
            obtain ⟨⟨_, _, _, _, _, b0, b1, b2⟩, _⟩ := HS11.out
            have hmd := Mid.set1 (w := w11) (g := bD) (o := 3) (.int .i64 (cf + (N.pcs[kq].len - at2)))
            have HS12 := hide (putS1 (b := bD) (by omega) (by omega) (by omega) (by omega) (o := 3) HS11.out (.int .i64 (cf + (N.pcs[kq].len - at2))))
            have HZ12 := hide (HZ11.out.mid hmd (by omega))
            have HC12 := hide (HC11.out.mid hmd (by omega))
            have HB12 := hide (HB11.out.setCell (p := ⟨bD, 3, none⟩) (show w.heap.size ≤ bD by omega) (.int .i64 (cf + (N.pcs[kq].len - at2))))
            have HD12 := hide (HD11.out.put3 (cf + (N.pcs[kq].len - at2)))
            have HRC12 := hide (HRC11.out.mid hmd HD11.out.2.2)
            have HR12 := hide (HR11.out.mid hmd HD11.out.2.2)
            obtain ⟨⟨d0, d1, d2, d3, d4⟩, fz, _⟩ := HD11.out
            have f3 := fz 3
            have hdl := cell_lt d0
            have hwf : IntKind.i64.wrap (cf + (N.pcs[kq].len - at2)) = cf + (N.pcs[kq].len - at2) := by rw [IntKind.wrap_i64]; omega
            clear hmd fz HS11 HZ11 HC11 HB11 HRC11
            go_upto_region 18 with fail
            clear d0 d1 d2 d3 d4 f3 HD11
            generalize w11.setCell ⟨bD, 3, none⟩ (.int .i64 (cf + (N.pcs[kq].len - at2))) = w12 at *
            obtain ⟨⟨d0, d1, d2, d3, d4⟩, _⟩ := HD12.out
            obtain ⟨⟨c0, c1, c2, c3, c4⟩, fc, _⟩ := HC12.out
            have hcl2 := cell_lt c0
            have hdl2 := cell_lt d0
            clear fc
            go_wp2_with fail
            refine (l4less_any cz z cc 1 ls1 ca ls2 q at2 wy ⟨cf + (N.pcs[kq].len - at2), cs⟩ ⟨(at2 - at1) * wy, [(q, wy)]⟩ _ hcs HRC12.out.1 HR12.out.1).mono ?_
            rintro e w13 ⟨rfl, hb13⟩
            rw [HLS.out]
            have HXS := hide (keepS hb13 HS12.out)
            have HXZ := hide (HZ12.out.later hb13)
            have HXC := hide (HC12.out.later hb13)
            have HXB := hide (HB12.out.trans (hb13.mono HB12.out.size))
            have HXR := hide (HR12.out.later hb13)
            clear hb13 c0 c1 c2 c3 c4 d0 d1 d2 d3 d4
            obtain ⟨⟨n0, n1, _, _, _, _, _, _⟩, _⟩ := HXS.out
            obtain ⟨⟨c0, c1, c2, c3, c4⟩, _⟩ := HXC.out
            go_wp2_with fail
            refine (l4path_any a a' z N cap cap' 1 (q) (at2) (wy) ((at2 - at1) * wy) [(q, wy)] _ (by omega) hl HME.out HR.out HXT.out (HJ.out.later HXB.out) HXR.out).mono ?_
            rintro e w20 ⟨zl, cl, rfl, hLE, hGE, hL4, hb20⟩
            obtain ⟨⟨z0, z1, z2, z3⟩, fz, hT⟩ := HXZ.out.later hb20
            have f0 := fz 0
            have f1 := fz 1
            have f2 := fz 2
            have f3 := fz 3
            have hz6 := cell_lt z0
            have hxz := cell_lt HXZ.out.1.1
            have HB21 := hide (below4 (b := w.heap.size + 1 + 1 + 1) (HXB.out.trans (hb20.mono HXB.out.size)) (by omega) (.bool true) (.int .i64 ((at2 - at1) * wy)) (.slice z 1 1) (.slice zl ((liesQ N [(q, wy)]).getD []).length cl))
            have hmd := mid4 w20 (w.heap.size + 1 + 1 + 1) (.bool true) (.int .i64 ((at2 - at1) * wy)) (.slice z 1 1) (.slice zl ((liesQ N [(q, wy)]).getD []).length cl)
            have HLF := hide (ends_mid hLE hmd (fun b o e => by
              have h := hGE b o e
              omega))
            have HSF := hide ((HXR.out.later hb20).mid hmd hT).1
            clear hmd fz hT hLE hGE hb20 n0 n1 c0 c1 c2 c3 c4
            go_wp2_with fail
            exact bodyPost_ret (v := .agg #[.bool true, .int .i64 ((at2 - at1) * wy), .slice z 1 1, .slice zl ((liesQ N [(q, wy)]).getD []).length cl]) (by simp [results, Tryz.results7, go_sem, z0, z1, z2, z3]) rfl ⟨_, rfl, .inr ⟨_, z, 1, zl, cl, HX.out, rfl, HSF.out, HLF.out, hL4⟩, HB21.out⟩

    | false =>
      have hc : ¬ ((q, wy) = ((kq : Int), wy') ∧ 0 ≤ (at2 - at1) * wy) := of_decide_eq_false HOWN.out.symm
      have HSH := hide (show shortP N hright q at1 wy kq at2 wy' = (bestO (grN N hright) (q, wy) (roomP N q at1 wy) ((kq : Int), wy')).map fun y => ⟨y.far + (lenAt N kq - roomP N kq at2 wy'), y.ss⟩ by unfold shortP; rw [if_neg hc])
      clear hc
      have HS8 := HS7
      have HZ8 := HZ7
      have HB8 := HB7
      have HC8 := HC7
      clear HS7 HZ7 HB7 HC7
      generalize w7 = w8 at *
      rcases hwy' with rfl | rfl
      · obtain ⟨⟨n0, n1, a0, a1, a2, b0, b1, b2⟩, _⟩ := HS8.out
        go_wp2_with fail
        refine (l4from_any a a' N cap cap' q at1 wy _ HR.out hn hl HME.out HS.out (HP.out.later HB8.out) (HJ.out.later HB8.out)).mono ?_
        rintro e w9 ⟨bB, bl, rfl, hOB, hBL, hRS, hb9⟩
        have HS9 := hide (keepS hb9 HS8.out)
        have HZ9 := hide (HZ8.out.later hb9)
        have HC9 := hide (HC8.out.later hb9)
        have HB9 := hide (HB8.out.trans (hb9.mono HB8.out.size))
        skip
        have hbl := hBL (2 * kq) (by omega)
        rw [show stepAt (2 * kq) = ((kq : Int), 1) from wayV_step kq 0 (by omega)] at hbl
        have hix : ((2 * kq : Nat) : Int) < ((2 * N.pcs.length : Nat) : Int) := by omega
        have HVI := hide (show lenAt N kq - roomP N kq at2 1 = at2 by unfold roomP; rw [if_pos rfl]; omega)
        have hx2 : IntKind.i64.wrap (2 * (kq : Int)) = ((2 * kq : Nat) : Int) := by rw [IntKind.wrap_i64]; omega
        skip
        have hx5 : IntKind.i64.wrap (((2 * kq : Nat) : Int) + 0) = ((2 * kq : Nat) : Int) := by rw [IntKind.wrap_i64]; omega
        have hx6 : IntKind.i64.wrap ((2 * kq : Nat) : Int) = ((2 * kq : Nat) : Int) := by rw [IntKind.wrap_i64]; omega
        have HOB := hide hOB
        have HRS := hide hRS
        clear hBL hOB hRS hb9 HS8 HZ8 HC8 HB8 n0 n1 a0 a1 a2 b0 b1 b2
        generalize hpp : 2 * kq = p at *
        generalize hnn : 2 * N.pcs.length = n2 at *
        obtain ⟨⟨n0, n1, a0, a1, a2, b0, b1, b2⟩, _⟩ := HS9.out
        rcases hbl with ⟨hL0, hbp⟩ | ⟨ci, hL0, hbp⟩
        · obtain ⟨c0', c1', c2', c3', c4'⟩ := cfs_at HOB.out hbp
          have hcl := cell_lt c0'
          have hAl := (Below.refl w9.heap.size w9).alloc (Nat.le_refl _) (.cells #[.int .i64 (lastS cN.y).1, .int .i64 cN.a, .int .i64 (lastS cN.y).2, .int .i64 (-1), .slice cN.z cN.y.ss.length cN.c] 71)
          have hfar : cN.y.far = -1 := rfl
          rw [hfar] at c3'
          clear hfar
          have HXS := hide (keepS hAl HS9.out)
          have HXZ := hide (HZ9.out.later hAl)
          have HXC := hide (HC9.out.later hAl)
          have HXB := hide (HB9.out.trans (hAl.mono HB9.out.size))
          have HX := hide (show shortP N hright q at1 wy kq at2 1 = none by rw [HSH.out, hL0]; rfl)
          clear hbp hL0 hAl
          obtain ⟨⟨z0, z1, z2, z3⟩, fz, hT⟩ := HXZ.out
          have f0 := fz 0
          have f1 := fz 1
          have f2 := fz 2
          have f3 := fz 3
          have hz6 := cell_lt z0
          have hsx := HB9.out.size
          go_upto_region 21 with fail
          clear c0' c1' c2' c3' c4' n0 n1 a0 a1 a2 b0 b1 b2
          generalize w9.alloc (.cells #[.int .i64 (lastS cN.y).1, .int .i64 cN.a, .int .i64 (lastS cN.y).2, .int .i64 (-1), .slice cN.z cN.y.ss.length cN.c] 71) = w10 at *
          have HB7 := hide (below4 (b := w.heap.size + 1 + 1 + 1) HXB.out (by omega) (.bool false) (.int .i64 0) (.slice none 0 0) (.slice none 0 0))
          clear fz hT
          go_wp2_with fail
          exact bodyPost_ret (v := .agg #[.bool false, .int .i64 0, .slice none 0 0, .slice none 0 0]) (by simp [results, Tryz.results7, go_sem, z0, z1, z2, z3]) rfl ⟨_, rfl, .inl ⟨HX.out, rfl⟩, HB7.out⟩
        · obtain ⟨c0', c1', c2', c3', c4'⟩ := cfs_at HOB.out hbp
          have hcl := cell_lt c0'
          have HRC := hide (HRS.out ci (List.mem_of_getElem? hbp))
          have hfar : 0 ≤ ci.y.far ∧ ci.y.far ≤ 1000000000 := by
            have hrb := room_bd HS.out
            have h1 := (bestO_way hL0).way.far_le ⟨hrb.1, by omega⟩
            have h2 := bestO_short hrb.1 hL0
            have h3 : (grN N hright).n = N.pcs.length := rfl
            rw [h3] at h2
            omega
          have hfl := hfar.1
          have HX := hide (show shortP N hright q at1 wy kq at2 1 = some ⟨ci.y.far + at2, ci.y.ss⟩ by rw [HSH.out, hL0]; exact congrArg (fun x => some (⟨ci.y.far + x, ci.y.ss⟩ : Wy)) HVI.out)
          have hcs : ci.y.ss.length ≤ 1048576 := by
            have h2 := bestO_short (room_bd HS.out).1 hL0
            have h3 : (grN N hright).n = N.pcs.length := rfl
            rw [h3] at h2
            omega
          generalize lastS ci.y = ls at *
          obtain ⟨ls1, ls2⟩ := ls
          obtain ⟨⟨cf, cs⟩, ca, cz, cc⟩ := ci
          dsimp only at *
          have hAl := (Below.refl w9.heap.size w9).alloc (Nat.le_refl _) (.cells #[.int .i64 ls1, .int .i64 ca, .int .i64 ls2, .int .i64 cf, .slice cz cs.length cc] 71)
          have HS10 := hide (keepS hAl HS9.out)
          have HZ10 := hide (HZ9.out.later hAl)
          have HC10 := hide (HC9.out.later hAl)
          have HB10 := hide (HB9.out.trans (hAl.mono HB9.out.size))
          have HD10 := hide (BoxC.new w9 ls1 ca ls2 cf (.slice cz cs.length cc))
          have HRC10 := hide (HRC.out.later hAl)
          skip
          have hcz := cell_lt HC9.out.1.1
          have hzz := cell_lt HZ9.out.1.1
          have hzl := cell_lt n0
          have hza := cell_lt a0
          have hzb := cell_lt b0
          have hs69 := (heldS HS9.out).size
          clear hbp hL0 hAl
          go_upto_region 14 with fail
          clear c0' c1' c2' c3' c4' n0 n1 a0 a1 a2 b0 b1 b2
          generalize w9.alloc (.cells #[.int .i64 ls1, .int .i64 ca, .int .i64 ls2, .int .i64 cf, .slice cz cs.length cc] 71) = w10 at *
          generalize w9.heap.size = bD at *
          have HS11 := HS10
          have HZ11 := HZ10
          have HC11 := HC10
          have HB11 := HB10
          have HD11 := HD10
          have HRC11 := HRC10
          skip
          clear HS10 HZ10 HC10 HB10 HD10 HRC10
          generalize w10 = w11 at *
          obtain ⟨⟨_, _, _, _, _, b0, b1, b2⟩, _⟩ := HS11.out
          have hmd := Mid.set1 (w := w11) (g := bD) (o := 3) (.int .i64 (cf + at2))
          have HS12 := hide (putS1 (b := bD) (by omega) (by omega) (by omega) (by omega) (o := 3) HS11.out (.int .i64 (cf + at2)))
          have HZ12 := hide (HZ11.out.mid hmd (by omega))
          have HC12 := hide (HC11.out.mid hmd (by omega))
          have HB12 := hide (HB11.out.setCell (p := ⟨bD, 3, none⟩) (show w.heap.size ≤ bD by omega) (.int .i64 (cf + at2)))
          have HD12 := hide (HD11.out.put3 (cf + at2))
          have HRC12 := hide (HRC11.out.mid hmd HD11.out.2.2)
          skip
          obtain ⟨⟨d0, d1, d2, d3, d4⟩, fz, _⟩ := HD11.out
          have f3 := fz 3
          have hdl := cell_lt d0
          have hwf : IntKind.i64.wrap (cf + at2) = cf + at2 := by rw [IntKind.wrap_i64]; omega
          clear hmd fz HS11 HZ11 HC11 HB11 HRC11
          go_upto_region 18 with fail
          clear d0 d1 d2 d3 d4 f3 HD11
          generalize w11.setCell ⟨bD, 3, none⟩ (.int .i64 (cf + at2)) = w12 at *
          obtain ⟨⟨d0, d1, d2, d3, d4⟩, _⟩ := HD12.out
          obtain ⟨⟨c0, c1, c2, c3, c4⟩, fc, _⟩ := HC12.out
          have hcl2 := cell_lt c0
          have hdl2 := cell_lt d0
          have g0 := fc 0
          have g1 := fc 1
          have g2 := fc 2
          have g3 := fc 3
          have g4 := fc 4
          have hmd := mid5 w12 bC (.int .i64 ls1) (.int .i64 ca) (.int .i64 ls2) (.int .i64 (cf + at2)) (.slice cz cs.length cc)
          have HXS := hide (putS5 (b := bC) (by omega) (by omega) (by omega) (by omega) HS12.out (.int .i64 ls1) (.int .i64 ca) (.int .i64 ls2) (.int .i64 (cf + at2)) (.slice cz cs.length cc))
          have HXZ := hide (HZ12.out.mid hmd (by omega))
          have HXC := hide (HC12.out.put ls1 ca ls2 (cf + at2) (.slice cz cs.length cc))
          have HXB := hide (below5 (b := bC) HB12.out (by omega) (.int .i64 ls1) (.int .i64 ca) (.int .i64 ls2) (.int .i64 (cf + at2)) (.slice cz cs.length cc))
          have HXR := hide (HRC12.out.mid hmd HC12.out.2.2)
          have HXT := hide (steps_short (show N.pcs.length ≤ 100 by omega) (short_left HS.out HS'.out HX.out).2.2.2.2.2.1 (short_left HS.out HS'.out HX.out).2.2.2.2.2.2)
          clear hmd fc
          go_upto_region 21 with fail
          clear c0 c1 c2 c3 c4 d0 d1 d2 d3 d4 g0 g1 g2 g3 g4
          simp only [put5] at HXS HXZ HXC HXB HXR
          generalize ((((w12.setCell ⟨bC, 0, none⟩ (.int .i64 ls1)).setCell ⟨bC, 1, none⟩ (.int .i64 ca)).setCell ⟨bC, 2, none⟩ (.int .i64 ls2)).setCell ⟨bC, 3, none⟩ (.int .i64 (cf + at2))).setCell ⟨bC, 4, none⟩ (.slice cz cs.length cc) = w13 at *
          obtain ⟨⟨n0, n1, _, _, _, _, _, _⟩, _⟩ := HXS.out
          obtain ⟨⟨c0, c1, c2, c3, c4⟩, _⟩ := HXC.out
          go_wp2_with fail
          refine (l4path_any a a' cz N cap cap' cc (ls1) (ca) (ls2) (cf + at2) cs _ (by omega) hl HME.out HR.out HXT.out (HJ.out.later HXB.out) HXR.out).mono ?_
          rintro e w20 ⟨zl, cl, rfl, hLE, hGE, hL4, hb20⟩
          obtain ⟨⟨z0, z1, z2, z3⟩, fz, hT⟩ := HXZ.out.later hb20
          have f0 := fz 0
          have f1 := fz 1
          have f2 := fz 2
          have f3 := fz 3
          have hz6 := cell_lt z0
          have hxz := cell_lt HXZ.out.1.1
          have HB21 := hide (below4 (b := w.heap.size + 1 + 1 + 1) (HXB.out.trans (hb20.mono HXB.out.size)) (by omega) (.bool true) (.int .i64 (cf + at2)) (.slice cz cs.length cc) (.slice zl ((liesQ N cs).getD []).length cl))
          have hmd := mid4 w20 (w.heap.size + 1 + 1 + 1) (.bool true) (.int .i64 (cf + at2)) (.slice cz cs.length cc) (.slice zl ((liesQ N cs).getD []).length cl)
          have HLF := hide (ends_mid hLE hmd (fun b o e => by
            have h := hGE b o e
            omega))
          have HSF := hide ((HXR.out.later hb20).mid hmd hT).1
          clear hmd fz hT hLE hGE hb20 n0 n1 c0 c1 c2 c3 c4
          go_wp2_with fail
          exact bodyPost_ret (v := .agg #[.bool true, .int .i64 (cf + at2), .slice cz cs.length cc, .slice zl ((liesQ N cs).getD []).length cl]) (by simp [results, Tryz.results7, go_sem, z0, z1, z2, z3]) rfl ⟨_, rfl, .inr ⟨_, cz, cc, zl, cl, HX.out, rfl, HSF.out, HLF.out, hL4⟩, HB21.out⟩
      · obtain ⟨⟨n0, n1, a0, a1, a2, b0, b1, b2⟩, _⟩ := HS8.out
        go_wp2_with fail
        refine (l4from_any a a' N cap cap' q at1 wy _ HR.out hn hl HME.out HS.out (HP.out.later HB8.out) (HJ.out.later HB8.out)).mono ?_
        rintro e w9 ⟨bB, bl, rfl, hOB, hBL, hRS, hb9⟩
        have HS9 := hide (keepS hb9 HS8.out)
        have HZ9 := hide (HZ8.out.later hb9)
        have HC9 := hide (HC8.out.later hb9)
        have HB9 := hide (HB8.out.trans (hb9.mono HB8.out.size))
        skip
        have hbl := hBL (2 * kq + 1) (by omega)
        rw [show stepAt (2 * kq + 1) = ((kq : Int), (-1)) from wayV_step kq 1 (by omega)] at hbl
        have hix : ((2 * kq + 1 : Nat) : Int) < ((2 * N.pcs.length : Nat) : Int) := by omega
        have HVI := hide (show lenAt N kq - roomP N kq at2 (-1) = (N.pcs[kq].len - at2) by unfold roomP; rw [if_neg (by decide), lenAt_nat N kq hkq])
        have hx2 : IntKind.i64.wrap (2 * (kq : Int) + 1) = ((2 * kq + 1 : Nat) : Int) := by rw [IntKind.wrap_i64]; omega
        have hx1 : IntKind.i64.wrap (2 * (kq : Int)) = 2 * (kq : Int) := by rw [IntKind.wrap_i64]; omega
        have hx5 : IntKind.i64.wrap (((2 * kq + 1 : Nat) : Int) + 0) = ((2 * kq + 1 : Nat) : Int) := by rw [IntKind.wrap_i64]; omega
        have hx6 : IntKind.i64.wrap ((2 * kq + 1 : Nat) : Int) = ((2 * kq + 1 : Nat) : Int) := by rw [IntKind.wrap_i64]; omega
        have HOB := hide hOB
        have HRS := hide hRS
        clear hBL hOB hRS hb9 HS8 HZ8 HC8 HB8 n0 n1 a0 a1 a2 b0 b1 b2
        generalize hpp : 2 * kq + 1 = p at *
        generalize hnn : 2 * N.pcs.length = n2 at *
        obtain ⟨⟨n0, n1, a0, a1, a2, b0, b1, b2⟩, _⟩ := HS9.out
        rcases hbl with ⟨hL0, hbp⟩ | ⟨ci, hL0, hbp⟩
        · obtain ⟨c0', c1', c2', c3', c4'⟩ := cfs_at HOB.out hbp
          have hcl := cell_lt c0'
          have hAl := (Below.refl w9.heap.size w9).alloc (Nat.le_refl _) (.cells #[.int .i64 (lastS cN.y).1, .int .i64 cN.a, .int .i64 (lastS cN.y).2, .int .i64 (-1), .slice cN.z cN.y.ss.length cN.c] 71)
          have hfar : cN.y.far = -1 := rfl
          rw [hfar] at c3'
          clear hfar
          have HXS := hide (keepS hAl HS9.out)
          have HXZ := hide (HZ9.out.later hAl)
          have HXC := hide (HC9.out.later hAl)
          have HXB := hide (HB9.out.trans (hAl.mono HB9.out.size))
          have HX := hide (show shortP N hright q at1 wy kq at2 (-1) = none by rw [HSH.out, hL0]; rfl)
          clear hbp hL0 hAl
          obtain ⟨⟨z0, z1, z2, z3⟩, fz, hT⟩ := HXZ.out
          have f0 := fz 0
          have f1 := fz 1
          have f2 := fz 2
          have f3 := fz 3
          have hz6 := cell_lt z0
          have hsx := HB9.out.size
          go_upto_region 21 with fail
          clear c0' c1' c2' c3' c4' n0 n1 a0 a1 a2 b0 b1 b2
          generalize w9.alloc (.cells #[.int .i64 (lastS cN.y).1, .int .i64 cN.a, .int .i64 (lastS cN.y).2, .int .i64 (-1), .slice cN.z cN.y.ss.length cN.c] 71) = w10 at *
          have HB7 := hide (below4 (b := w.heap.size + 1 + 1 + 1) HXB.out (by omega) (.bool false) (.int .i64 0) (.slice none 0 0) (.slice none 0 0))
          clear fz hT
          go_wp2_with fail
          exact bodyPost_ret (v := .agg #[.bool false, .int .i64 0, .slice none 0 0, .slice none 0 0]) (by simp [results, Tryz.results7, go_sem, z0, z1, z2, z3]) rfl ⟨_, rfl, .inl ⟨HX.out, rfl⟩, HB7.out⟩
        · obtain ⟨c0', c1', c2', c3', c4'⟩ := cfs_at HOB.out hbp
          have hcl := cell_lt c0'
          have HRC := hide (HRS.out ci (List.mem_of_getElem? hbp))
          have hfar : 0 ≤ ci.y.far ∧ ci.y.far ≤ 1000000000 := by
            have hrb := room_bd HS.out
            have h1 := (bestO_way hL0).way.far_le ⟨hrb.1, by omega⟩
            have h2 := bestO_short hrb.1 hL0
            have h3 : (grN N hright).n = N.pcs.length := rfl
            rw [h3] at h2
            omega
          have hfl := hfar.1
          have HX := hide (show shortP N hright q at1 wy kq at2 (-1) = some ⟨ci.y.far + (N.pcs[kq].len - at2), ci.y.ss⟩ by rw [HSH.out, hL0]; exact congrArg (fun x => some (⟨ci.y.far + x, ci.y.ss⟩ : Wy)) HVI.out)
          have hcs : ci.y.ss.length ≤ 1048576 := by
            have h2 := bestO_short (room_bd HS.out).1 hL0
            have h3 : (grN N hright).n = N.pcs.length := rfl
            rw [h3] at h2
            omega
          generalize lastS ci.y = ls at *
          obtain ⟨ls1, ls2⟩ := ls
          obtain ⟨⟨cf, cs⟩, ca, cz, cc⟩ := ci
          dsimp only at *
          have hAl := (Below.refl w9.heap.size w9).alloc (Nat.le_refl _) (.cells #[.int .i64 ls1, .int .i64 ca, .int .i64 ls2, .int .i64 cf, .slice cz cs.length cc] 71)
          have HS10 := hide (keepS hAl HS9.out)
          have HZ10 := hide (HZ9.out.later hAl)
          have HC10 := hide (HC9.out.later hAl)
          have HB10 := hide (HB9.out.trans (hAl.mono HB9.out.size))
          have HD10 := hide (BoxC.new w9 ls1 ca ls2 cf (.slice cz cs.length cc))
          have HRC10 := hide (HRC.out.later hAl)
          skip
          have hcz := cell_lt HC9.out.1.1
          have hzz := cell_lt HZ9.out.1.1
          have hzl := cell_lt n0
          have hza := cell_lt a0
          have hzb := cell_lt b0
          have hs69 := (heldS HS9.out).size
          clear hbp hL0 hAl
          go_upto_region 14 with fail
          clear c0' c1' c2' c3' c4' n0 n1 a0 a1 a2 b0 b1 b2
          generalize w9.alloc (.cells #[.int .i64 ls1, .int .i64 ca, .int .i64 ls2, .int .i64 cf, .slice cz cs.length cc] 71) = w10 at *
          generalize w9.heap.size = bD at *
          obtain ⟨⟨n0, n1, _, _, _, b0, b1, b2⟩, _⟩ := HS10.out
          obtain ⟨pb, poff, hpa, p0, p1, p2, p3⟩ := HP.out.later HB10.out kq hkq
          have HPA := hide hpa
          have hpl := cell_lt p0
          rw [hpa] at n0
          clear hpa
          go_upto_region 16 with fail
          go_quiet (fail)
          have HQB := hide (below_drewN (Below.refl w10.heap.size w10) nq)
          generalize w10.drewN nq = w11 at *
          have HS11 := hide (keepS HQB.out HS10.out)
          have HZ11 := hide (HZ10.out.later HQB.out)
          have HC11 := hide (HC10.out.later HQB.out)
          have HB11 := hide (HB10.out.trans (HQB.out.mono HB10.out.size))
          have HD11 := hide (HD10.out.later HQB.out)
          have HRC11 := hide (HRC10.out.later HQB.out)
          skip
          clear HS10 HZ10 HC10 HB10 HD10 HRC10 HQB n0 n1 b0 b1 b2 p0 p1 p2 p3
          obtain ⟨⟨_, _, _, _, _, b0, b1, b2⟩, _⟩ := HS11.out
          have hmd := Mid.set1 (w := w11) (g := bD) (o := 3) (.int .i64 (cf + (N.pcs[kq].len - at2)))
          have HS12 := hide (putS1 (b := bD) (by omega) (by omega) (by omega) (by omega) (o := 3) HS11.out (.int .i64 (cf + (N.pcs[kq].len - at2))))
          have HZ12 := hide (HZ11.out.mid hmd (by omega))
          have HC12 := hide (HC11.out.mid hmd (by omega))
          have HB12 := hide (HB11.out.setCell (p := ⟨bD, 3, none⟩) (show w.heap.size ≤ bD by omega) (.int .i64 (cf + (N.pcs[kq].len - at2))))
          have HD12 := hide (HD11.out.put3 (cf + (N.pcs[kq].len - at2)))
          have HRC12 := hide (HRC11.out.mid hmd HD11.out.2.2)
          skip
          obtain ⟨⟨d0, d1, d2, d3, d4⟩, fz, _⟩ := HD11.out
          have f3 := fz 3
          have hdl := cell_lt d0
          have hwf : IntKind.i64.wrap (cf + (N.pcs[kq].len - at2)) = cf + (N.pcs[kq].len - at2) := by rw [IntKind.wrap_i64]; omega
          clear hmd fz HS11 HZ11 HC11 HB11 HRC11
          go_upto_region 18 with fail
          clear d0 d1 d2 d3 d4 f3 HD11
          generalize w11.setCell ⟨bD, 3, none⟩ (.int .i64 (cf + (N.pcs[kq].len - at2))) = w12 at *
          obtain ⟨⟨d0, d1, d2, d3, d4⟩, _⟩ := HD12.out
          obtain ⟨⟨c0, c1, c2, c3, c4⟩, fc, _⟩ := HC12.out
          have hcl2 := cell_lt c0
          have hdl2 := cell_lt d0
          have g0 := fc 0
          have g1 := fc 1
          have g2 := fc 2
          have g3 := fc 3
          have g4 := fc 4
          have hmd := mid5 w12 bC (.int .i64 ls1) (.int .i64 ca) (.int .i64 ls2) (.int .i64 (cf + (N.pcs[kq].len - at2))) (.slice cz cs.length cc)
          have HXS := hide (putS5 (b := bC) (by omega) (by omega) (by omega) (by omega) HS12.out (.int .i64 ls1) (.int .i64 ca) (.int .i64 ls2) (.int .i64 (cf + (N.pcs[kq].len - at2))) (.slice cz cs.length cc))
          have HXZ := hide (HZ12.out.mid hmd (by omega))
          have HXC := hide (HC12.out.put ls1 ca ls2 (cf + (N.pcs[kq].len - at2)) (.slice cz cs.length cc))
          have HXB := hide (below5 (b := bC) HB12.out (by omega) (.int .i64 ls1) (.int .i64 ca) (.int .i64 ls2) (.int .i64 (cf + (N.pcs[kq].len - at2))) (.slice cz cs.length cc))
          have HXR := hide (HRC12.out.mid hmd HC12.out.2.2)
          have HXT := hide (steps_short (show N.pcs.length ≤ 100 by omega) (short_left HS.out HS'.out HX.out).2.2.2.2.2.1 (short_left HS.out HS'.out HX.out).2.2.2.2.2.2)
          clear hmd fc
          go_upto_region 21 with fail
          clear c0 c1 c2 c3 c4 d0 d1 d2 d3 d4 g0 g1 g2 g3 g4
          simp only [put5] at HXS HXZ HXC HXB HXR
          generalize ((((w12.setCell ⟨bC, 0, none⟩ (.int .i64 ls1)).setCell ⟨bC, 1, none⟩ (.int .i64 ca)).setCell ⟨bC, 2, none⟩ (.int .i64 ls2)).setCell ⟨bC, 3, none⟩ (.int .i64 (cf + (N.pcs[kq].len - at2)))).setCell ⟨bC, 4, none⟩ (.slice cz cs.length cc) = w13 at *
          obtain ⟨⟨n0, n1, _, _, _, _, _, _⟩, _⟩ := HXS.out
          obtain ⟨⟨c0, c1, c2, c3, c4⟩, _⟩ := HXC.out
          go_wp2_with fail
          refine (l4path_any a a' cz N cap cap' cc (ls1) (ca) (ls2) (cf + (N.pcs[kq].len - at2)) cs _ (by omega) hl HME.out HR.out HXT.out (HJ.out.later HXB.out) HXR.out).mono ?_
          rintro e w20 ⟨zl, cl, rfl, hLE, hGE, hL4, hb20⟩
          obtain ⟨⟨z0, z1, z2, z3⟩, fz, hT⟩ := HXZ.out.later hb20
          have f0 := fz 0
          have f1 := fz 1
          have f2 := fz 2
          have f3 := fz 3
          have hz6 := cell_lt z0
          have hxz := cell_lt HXZ.out.1.1
          have HB21 := hide (below4 (b := w.heap.size + 1 + 1 + 1) (HXB.out.trans (hb20.mono HXB.out.size)) (by omega) (.bool true) (.int .i64 (cf + (N.pcs[kq].len - at2))) (.slice cz cs.length cc) (.slice zl ((liesQ N cs).getD []).length cl))
          have hmd := mid4 w20 (w.heap.size + 1 + 1 + 1) (.bool true) (.int .i64 (cf + (N.pcs[kq].len - at2))) (.slice cz cs.length cc) (.slice zl ((liesQ N cs).getD []).length cl)
          have HLF := hide (ends_mid hLE hmd (fun b o e => by
            have h := hGE b o e
            omega))
          have HSF := hide ((HXR.out.later hb20).mid hmd hT).1
          clear hmd fz hT hLE hGE hb20 n0 n1 c0 c1 c2 c3 c4
          go_wp2_with fail
          exact bodyPost_ret (v := .agg #[.bool true, .int .i64 (cf + (N.pcs[kq].len - at2)), .slice cz cs.length cc, .slice zl ((liesQ N cs).getD []).length cl]) (by simp [results, Tryz.results7, go_sem, z0, z1, z2, z3]) rfl ⟨_, rfl, .inr ⟨_, cz, cc, zl, cl, HX.out, rfl, HSF.out, HLF.out, hL4⟩, HB21.out⟩

end Go.Proofs.YtldafgbhjpfboaaGreat
