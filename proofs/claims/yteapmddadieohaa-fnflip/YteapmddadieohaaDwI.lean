/- ASpot, Lies: walks. Own work. -/
import Derived.Test.YteapmddadieohaaDwH
import Derived.Deep.AppendLies
namespace Go.Proofs.Yteapmddadieohaa
open Go.RowKit
set_option maxHeartbeats 4000000

theorem aSpot_any (a a' z : Option Addr) (N : Nt) (cap cap' zc : Nat) (code : List Int) (w : World) (hN : NetBd N) (hB : Bys code) (hn : code.length ≤ 1048576) (hp : PcsAt w a N.pcs) (hx : BytesAt w z code) :
    Calls Try.prog 7 #[.agg #[.slice a N.pcs.length cap, .slice a' N.jts.length cap'], .slice z code.length zc] w fun e w' =>
    e = .returned (.agg #[.int .i64 (spotQ N code), .int .i64 (spotA N code), .int .i64 (spotW N code)]) ∧ Below w.heap.size w w' := by
  have HB := hide hB
  have HX := hide hx
  have HP := hide hp
  have HNB := hide hN
  have h1 := hN.some
  have h9 := hN.few
  have HO := hide (off_of hx (B := w.heap.size + 1 + 1) (by omega))
  have hbA : Below w.heap.size w (((w.alloc (.cells #[.slice a N.pcs.length cap, .slice a' N.jts.length cap'] 26)).alloc (.cells #[.int .i64 0, .int .i64 0, .int .i64 0] 29)).alloc (.cells #[.slice z code.length zc, .int .i64 0, .int .u64 0] 48)) := (((Below.refl _ _).alloc (Nat.le_refl _) _).alloc (by simp) _).alloc (by simp; omega) _
  have HCA : Hid (CurAt (((w.alloc (.cells #[.slice a N.pcs.length cap, .slice a' N.jts.length cap'] 26)).alloc (.cells #[.int .i64 0, .int .i64 0, .int .i64 0] 29)).alloc (.cells #[.slice z code.length zc, .int .i64 0, .int .u64 0] 48)) (w.heap.size + 1 + 1) z code.length zc ⟨0, 0⟩) :=
    ⟨by simp [go_sem], by simp [go_sem], by simp [go_sem], by simp [go_sem], by simp [go_sem]⟩
  have HZ3 : Hid (((((w.alloc (.cells #[.slice a N.pcs.length cap, .slice a' N.jts.length cap'] 26)).alloc (.cells #[.int .i64 0, .int .i64 0, .int .i64 0] 29)).alloc (.cells #[.slice z code.length zc, .int .i64 0, .int .u64 0] 48)).heap.size = w.heap.size + 3) ∧ (((w.alloc (.cells #[.slice a N.pcs.length cap, .slice a' N.jts.length cap'] 26)).alloc (.cells #[.int .i64 0, .int .i64 0, .int .i64 0] 29)).alloc (.cells #[.slice z code.length zc, .int .i64 0, .int .u64 0] 48)).cell? ⟨w.heap.size, 0, none⟩ = some (.slice a N.pcs.length cap) ∧ (∀ o, o < 3 → (((w.alloc (.cells #[.slice a N.pcs.length cap, .slice a' N.jts.length cap'] 26)).alloc (.cells #[.int .i64 0, .int .i64 0, .int .i64 0] 29)).alloc (.cells #[.slice z code.length zc, .int .i64 0, .int .u64 0] 48)).cell? ⟨w.heap.size + 1, o, none⟩ = some (.int .i64 0)) ∧ (∀ o, (((w.alloc (.cells #[.slice a N.pcs.length cap, .slice a' N.jts.length cap'] 26)).alloc (.cells #[.int .i64 0, .int .i64 0, .int .i64 0] 29)).alloc (.cells #[.slice z code.length zc, .int .i64 0, .int .u64 0] 48)).frozen? ⟨w.heap.size + 1, o, none⟩ = false)) := by
    refine ⟨by simp, by simp [go_sem], ?_, ?_⟩
    · intro o ho
      have : o = 0 ∨ o = 1 ∨ o = 2 := by omega
      rcases this with rfl | rfl | rfl <;> simp [go_sem]
    · intro o; simp [go_sem]
  have t0 := HZ3.out.2.1
  have hzA := HZ3.out.1
  clear hB hx hp
  go_enter Try.func7, Try.ntmps7
  go_wp2_with fail
  generalize (((w.alloc (.cells #[.slice a N.pcs.length cap, .slice a' N.jts.length cap'] 26)).alloc (.cells #[.int .i64 0, .int .i64 0, .int .i64 0] 29)).alloc (.cells #[.slice z code.length zc, .int .i64 0, .int .u64 0] 48)) = w1 at *
  refine (pick_any _ z zc code ⟨0, 0⟩ N.pcs.length _ HB.out (Nat.zero_le _) hn HO.out (by omega) (by omega) HCA.out (HX.out.later hbA)).mono ?_
  rintro e w2 ⟨rfl, hc2, hm2⟩
  have HC2 := hide hc2
  have HX2 := hide ((HX.out.later hbA).mid hm2 HO.out)
  have hq := pickV_bd (code := code) (n := (N.pcs.length : Int)) (by omega) ⟨0, 0⟩
  have hca := pickC_at code N.pcs.length ⟨0, 0⟩
  have HQ := hide (show spotQ N code = pickV code N.pcs.length ⟨0, 0⟩ from rfl)
  have HA := hide (show spotA N code = wideV code (lenAt N (spotQ N code) + 1) (pickC code N.pcs.length ⟨0, 0⟩) from rfl)
  have HW := hide (show spotW N code = 1 - 2 * pickV code 2 (wideC code (pickC code N.pcs.length ⟨0, 0⟩)) from rfl)
  obtain ⟨k, hk⟩ := Int.eq_ofNat_of_zero_le hq.1
  have hkl : k < N.pcs.length := by omega
  have HQK := hide (show spotQ N code = k by rw [HQ.out]; exact hk)
  rw [HQK.out] at HA
  have hlen := hN.len_at hkl
  have hm2s := hm2.size
  have t0 := hm2.cell (.inl (by omega)) t0
  obtain ⟨pb, po, rfl, _, p1, _, _⟩ := (HP.out.later hbA) k hkl
  have hpb : pb < w.heap.size := by
    obtain ⟨pb', po', e, c0, _⟩ := HP.out k hkl
    obtain ⟨rfl, rfl⟩ : pb = pb' ∧ po = po' := by simpa using e
    exact cell_lt c0
  have p1 := hm2.cell (.inl (by omega)) p1
  rw [← lenAt_nat N k hkl] at p1
  have hki : (k : Int) < (N.pcs.length : Int) := by omega
  generalize hL : lenAt N k = L at *
  generalize pickC code N.pcs.length ⟨0, 0⟩ = c1 at *
  have hbw : Below w.heap.size w w2 := hbA.trans ((hm2.below (by omega)).mono (by omega))
  have HM2 := hide hm2
  rw [hk]
  clear hc2 hm2 hL hk hq
  go_wp2_with fail
  refine (wide_any _ z zc code c1 (L + 1) _ HB.out (by have := hca; simp at this; omega) hn HO.out (by omega) (by omega) HC2.out HX2.out).mono ?_
  rintro e w3 ⟨rfl, hc3, hm3⟩
  have HC3 := hide hc3
  have HX3 := hide (HX2.out.mid hm3 HO.out)
  have hwa := wideC_at code c1
  have hwv := wideV_bd (code := code) (n := L + 1) (by omega) c1
  have HM3 := hide (HM2.out.trans hm3)
  have hbw3 : Below w.heap.size w w3 := hbw.trans ((hm3.below (by omega)).mono (by omega))
  clear hc3 hm3
  go_wp2_with fail
  refine (pick_any _ z zc code (wideC code c1) 2 _ HB.out (by have := hca; simp at this; omega) hn HO.out (by omega) (by omega) HC3.out HX3.out).mono ?_
  rintro e w4 ⟨rfl, hc4, hm4⟩
  have hp2 := pickV_bd (code := code) (n := 2) (by omega) (wideC code c1)
  have HM4 := hide (HM3.out.trans hm4)
  have hbw4 : Below w.heap.size w w4 := hbw3.trans ((hm4.below (by have := HM3.out.size; omega)).mono (by omega))
  have r0 := HM4.out.cell (.inl (by omega)) (HZ3.out.2.2.1 0 (by omega))
  have r1 := HM4.out.cell (.inl (by omega)) (HZ3.out.2.2.1 1 (by omega))
  have r2 := HM4.out.cell (.inl (by omega)) (HZ3.out.2.2.1 2 (by omega))
  have f0 := HM4.out.frozen (.inl (by omega)) (HZ3.out.2.2.1 0 (by omega)) (HZ3.out.2.2.2 0)
  have f1 := HM4.out.frozen (.inl (by omega)) (HZ3.out.2.2.1 1 (by omega)) (HZ3.out.2.2.2 1)
  have f2 := HM4.out.frozen (.inl (by omega)) (HZ3.out.2.2.1 2 (by omega)) (HZ3.out.2.2.2 2)
  clear hc4 hm4
  generalize wideV code (L + 1) c1 = y at *
  generalize pickV code 2 (wideC code c1) = q2 at *
  go_wp2_with fail
  have hle : w.heap.size ≤ w.heap.size + 1 := by omega
  refine bodyPost_ret (v := .agg #[.int .i64 k, .int .i64 y, .int .i64 (1 - 2 * q2)]) (by simp [results, Try.results7, go_sem, r0, r1, r2]) rfl ⟨?_, ((hbw4.setCell hle _).setCell hle _).setCell hle _⟩
  rw [HQK.out, HA.out, HW.out]

theorem lies_any (a a' z : Option Addr) (N : Nt) (cap cap' zc : Nat) (code : List Int) (w : World) (hN : NetBd N) (hB : Bys code) (hn : code.length ≤ 1048576) (hj : JtsAt w a' N.jts) (hx : BytesAt w z code) :
    Calls Try.prog 8 #[.agg #[.slice a N.pcs.length cap, .slice a' N.jts.length cap'], .slice z code.length zc] w fun e w' =>
    ∃ v, e = .returned v ∧ w'.ownsRow w.heap.size 3 1 v (liesL N code).length ((liesL N code).map (Value.int .i64)) ∧ Below w.heap.size w w' := by
  obtain ⟨i0, hi, hz0, hz1, hz2⟩ := infos info_Int
  have HI := hide hi
  have HZ0 := hide hz0
  have HZ1 := hide hz1
  have HZ2 := hide hz2
  have HB := hide hB
  have HX := hide hx
  have HJ := hide hj
  have h18 := hN.joints
  have HO := hide (off_of hx (B := w.heap.size + 1) (by omega))
  have hbA : Below w.heap.size w ((w.alloc (.cells #[.slice a N.pcs.length cap, .slice a' N.jts.length cap'] 26)).alloc (.cells #[.slice z code.length zc, .int .i64 0, .int .u64 0] 48)) := ((Below.refl _ _).alloc (Nat.le_refl _) _).alloc (by simp) _
  have HCA : Hid (CurAt ((w.alloc (.cells #[.slice a N.pcs.length cap, .slice a' N.jts.length cap'] 26)).alloc (.cells #[.slice z code.length zc, .int .i64 0, .int .u64 0] 48)) (w.heap.size + 1) z code.length zc ⟨0, 0⟩) :=
    ⟨by simp [go_sem], by simp [go_sem], by simp [go_sem], by simp [go_sem], by simp [go_sem]⟩
  have hzA : ((w.alloc (.cells #[.slice a N.pcs.length cap, .slice a' N.jts.length cap'] 26)).alloc (.cells #[.slice z code.length zc, .int .i64 0, .int .u64 0] 48)).heap.size = w.heap.size + 2 := by simp
  clear hi hz0 hz1 hz2 hB hx hj
  go_enter Try.func8, Try.ntmps8
  go_wp2_with fail
  generalize ((w.alloc (.cells #[.slice a N.pcs.length cap, .slice a' N.jts.length cap'] 26)).alloc (.cells #[.slice z code.length zc, .int .i64 0, .int .u64 0] 48)) = w1 at *
  go_loopw [6, 8, 9, 16] (fun v _ _ i wr => ∃ (k : Nat), k ≤ N.jts.length ∧ i = .int .i64 k ∧ Hid (CurAt wr (w.heap.size + 1) z code.length zc (liesD code N.jts k).2) ∧ Hid (wr.ownsRow (w.heap.size + 2) 3 1 v k ((liesD code N.jts k).1.map (Value.int .i64))) ∧ Hid (Below (w.heap.size + 1) w1 wr)) (fun _ _ _ i _ => N.jts.length - (intOf i).toNat)
  case atStart => exact ⟨0, Nat.zero_le _, rfl, HCA.out, World.ownsRow_nil _ _ _ _, Below.refl _ _⟩
  case round =>
    obtain ⟨k, hk, rfl, HC, HOW, HBL⟩ := hrel
    have HBW := hide (hbA.trans (HBL.out.mono (by omega)))
    have hsz := HBL.out.size
    have hca := liesD_at code N.jts k
    by_cases hlt : k < N.jts.length
    · obtain ⟨jb, jo, ea, ec, rfl, k0, k1, k2, _⟩ := (HJ.out.later HBW.out) k hlt
      have hki : (k : Int) < (N.jts.length : Int) := by omega
      have hjb := cell_lt k0
      have hg : (N.jts[k]!) = N.jts[k] := by simp [hlt]
      have hml : k + 1 ≤ maxLen := by unfold maxLen; omega
      have hA := (Below.refl wr.heap.size wr).alloc (Nat.le_refl _) (.cells #[.int .i64 N.jts[k].kind, .string N.jts[k].name, .slice ea N.jts[k].ends.length ec] 53)
      have HX2 := hide ((HX.out.later HBW.out).later hA)
      by_cases h3 : N.jts[k].kind = 3
      · have HS := hide (show liesD code N.jts (k + 1) = ((liesD code N.jts k).1 ++ [1 + pickV code 2 (liesD code N.jts k).2], pickC code 2 (liesD code N.jts k).2) by rw [liesD, hg, if_pos h3])
        have q3 : (N.jts[k].kind == 3) = true := by rw [beq_iff_eq]; exact h3
        have HC2 := hide (HC.out.later hA)
        have HOW2 := hide (owns_later' HOW.out hA)
        have HBL2 := hide (HBL.out.trans (hA.mono (by omega)))
        have hsA : wr.heap.size < (wr.alloc (.cells #[.int .i64 N.jts[k].kind, .string N.jts[k].name, .slice ea N.jts[k].ends.length ec] 53)).heap.size := by simp
        clear hA HC HOW HBL h3 hg
        go_wp2_with fail
        generalize wr.alloc (.cells #[.int .i64 N.jts[k].kind, .string N.jts[k].name, .slice ea N.jts[k].ends.length ec] 53) = w2 at *
        refine (pick_any _ z zc code _ 2 _ HB.out (by omega) hn HO.out (by omega) (by omega) HC2.out HX2.out).mono ?_
        rintro e w3 ⟨rfl, hc3, hm3⟩
        have HC3 := hide hc3
        have HOW3 := hide (owns_mid HOW2.out hm3 (by omega))
        have HBL3 := hide (HBL2.out.trans (hm3.below (by omega)))
        have hp2 := pickV_bd (code := code) (n := 2) (by omega) (liesD code N.jts k).2
        have hs3 := hm3.size
        clear hc3 hm3 HC2 HOW2 HBL2
        generalize pickV code 2 (liesD code N.jts k).2 = q2 at *
        have HLT := hide (fun g h => (HOW3.out.lt g h).1)
        go_wp2_with (first
          | (at_builtin; (refine wpList_append_lies _ rfl _ _ _ rfl (w.heap.size + 2) 3 i0 _ 1 8 Try.underlying31 HI.out HZ0.out HZ1.out HZ2.out rfl (by omega) _ k ((liesD code N.jts k).1.map (Value.int .i64)) rfl (HOW3.out.alloc _) ⟨w3.heap.size, 0, none⟩ 1 1 [.int .i64 (1 + q2)] rfl rfl (news_at rfl) (by simp [Value.oneCell']) (by omega) hml (by omega) (by simp; omega) _ rfl ?_); intro g2 c2 w4 hown2 hgrow2 _ hlt2))
        have hA3 := (Below.refl w3.heap.size w3).alloc (Nat.le_refl _) (.cells #[.int .i64 (1 + q2)] 3)
        refine ⟨⟨k + 1, by omega, by go_num, ?_, ?_, ?_⟩, by simp [intOf]; omega⟩
        · show CurAt _ _ _ _ _ _
          rw [HS.out]
          have h := HC3.out.later hA3
          have hne : some (w.heap.size + 1) ≠ Value.ownBlock _ := fun e => by have := HLT.out _ e.symm; omega
          have hl1 : w.heap.size + 1 < (w3.alloc (.cells #[.int .i64 (1 + q2)] 3)).heap.size := cell_lt h.c0
          exact ⟨hgrow2.cell h.c0 hne, hgrow2.cell h.c1 hne, hgrow2.cell h.c2 hne, (hgrow2.frozen_far ⟨w.heap.size + 1, 1, none⟩ hl1 hne).trans h.f1, (hgrow2.frozen_far ⟨w.heap.size + 1, 2, none⟩ hl1 hne).trans h.f2⟩
        · show World.ownsRow _ _ _ _ _ _ _
          rw [HS.out, List.map_append]
          exact hown2
        · exact (HBL3.out.trans (hA3.mono (by omega))).grown hgrow2 (by simp; omega) (fun g e => by have := HLT.out g e; omega)
      · have HS := hide (show liesD code N.jts (k + 1) = ((liesD code N.jts k).1 ++ [0], (liesD code N.jts k).2) by rw [liesD, hg, if_neg h3])
        have q3 : (N.jts[k].kind == 3) = false := by rw [beq_eq_false_iff_ne]; exact h3
        have HLT := hide (fun g h => (HOW.out.lt g h).1)
        have hbs : w.heap.size + 2 ≤ wr.heap.size := by omega
        clear hA h3 hg
        go_wp2_with (first
          | (at_builtin; (refine wpList_append_lies _ rfl _ _ _ rfl (w.heap.size + 2) 3 i0 _ 1 8 Try.underlying31 HI.out HZ0.out HZ1.out HZ2.out rfl (by omega) _ k ((liesD code N.jts k).1.map (Value.int .i64)) rfl ((HOW.out.alloc _).alloc _) ⟨_, 0, none⟩ 1 1 [.int .i64 0] rfl rfl (news_at (by simp)) (by simp [Value.oneCell']) (by omega) hml (by omega) (by simp; omega) _ rfl ?_); intro g2 c2 w4 hown2 hgrow2 _ hlt2))
        have hA3 := ((Below.refl wr.heap.size wr).alloc (Nat.le_refl _) (.cells #[.int .i64 N.jts[k].kind, .string N.jts[k].name, .slice ea N.jts[k].ends.length ec] 53)).alloc (by simp) (.cells #[.int .i64 0] 3)
        refine ⟨⟨k + 1, by omega, by go_num, ?_, ?_, ?_⟩, by simp [intOf]; omega⟩
        · show CurAt _ _ _ _ _ _
          rw [HS.out]
          have h := HC.out.later hA3
          have hne : some (w.heap.size + 1) ≠ Value.ownBlock _ := fun e => by have := HLT.out _ e.symm; omega
          have hl1 : w.heap.size + 1 < ((wr.alloc (.cells #[.int .i64 N.jts[k].kind, .string N.jts[k].name, .slice ea N.jts[k].ends.length ec] 53)).alloc (.cells #[.int .i64 0] 3)).heap.size := cell_lt h.c0
          exact ⟨hgrow2.cell h.c0 hne, hgrow2.cell h.c1 hne, hgrow2.cell h.c2 hne, (hgrow2.frozen_far ⟨w.heap.size + 1, 1, none⟩ hl1 hne).trans h.f1, (hgrow2.frozen_far ⟨w.heap.size + 1, 2, none⟩ hl1 hne).trans h.f2⟩
        · show World.ownsRow _ _ _ _ _ _ _
          rw [HS.out, List.map_append]
          exact hown2
        · exact (HBL.out.trans (hA3.mono (by omega))).grown hgrow2 (by simp; omega) (fun g e => by have := HLT.out g e; omega)
    · obtain rfl : k = N.jts.length := by omega
      go_wp2_with fail
      go_ret
      refine ⟨_, rfl, ?_, HBW.out⟩
      have hl : (liesL N code).length = N.jts.length := liesD_len code N.jts N.jts.length
      rw [hl]
      exact owns_low HOW.out (by omega)
end Go.Proofs.Yteapmddadieohaa
