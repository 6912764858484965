/- spec's net: the pieces, the order of the ends, the joints. Own work. -/
import Derived.Test.YteapmddadieohaaDwF
import Derived.Deep.RegionLaw
import Derived.Deep.CutRange
import Derived.Deep.DeepCutAuto
namespace Go.Proofs.Yteapmddadieohaa
open Go.RowKit
set_option maxHeartbeats 8000000

theorem w64_1 {x : Int} (h0 : 0 ≤ x) (h1 : x ≤ 10000000) : IntKind.i64.wrap (1 + x) = 1 + x := by rw [IntKind.wrap_i64]; omega

theorem CurAt.setFar {w : World} {b : Nat} {a : Option Addr} {n cap : Nat} {c : Cu} (h : CurAt w b a n cap c) {B o : Nat} (hB : B ≠ b) (v : Value) : CurAt (w.setCell ⟨B, o, none⟩ v) b a n cap c where
  c0 := by rw [World.cell?_setCell_far _ ⟨B, o, none⟩ ⟨b, 0, none⟩ _ (by show B ≠ b; exact hB)]; exact h.c0
  c1 := by rw [World.cell?_setCell_far _ ⟨B, o, none⟩ ⟨b, 1, none⟩ _ (by show B ≠ b; exact hB)]; exact h.c1
  c2 := by rw [World.cell?_setCell_far _ ⟨B, o, none⟩ ⟨b, 2, none⟩ _ (by show B ≠ b; exact hB)]; exact h.c2
  f1 := by rw [World.frozen?_setCell]; exact h.f1
  f2 := by rw [World.frozen?_setCell]; exact h.f2
/-- The same, and where the reader stands then. -/
def NetPost2 (code : List Int) (c : Cu) (b : Nat) (a : Option Addr) (cap : Nat) (w : World) (e : Ending) (w' : World) : Prop :=
  ∃ (pa ja : Option Addr) (pcap jcap : Nat) (c' : Cu), e = .returned (.agg #[.slice pa (netP code c).pcs.length pcap, .slice ja (netP code c).jts.length jcap]) ∧ NetIn w w' pa ja (netP code c) ∧ Mid b (b + 1) w w' ∧ c'.at' ≤ 2100 ∧ CurAt w' b a code.length cap c'
set_option maxRecDepth 20000 in
theorem net_cur (b : Nat) (a : Option Addr) (cap : Nat) (code : List Int) (c : Cu) (w : World) (hB : Bys code) (hat : c.at' ≤ 1000) (hn : code.length ≤ 1048576) (ho : OffB a code.length b) (hc : CurAt w b a code.length cap c) (hx : BytesAt w a code) :
    Calls Try.prog 18 #[.pointer (some ⟨b, 0, none⟩)] w fun e w' => NetPost2 code c b a cap w e w' := by
  obtain ⟨iP, hiP, zP0, zP1, zP2⟩ := infos info_Piece
  obtain ⟨iE, hiE, zE0, zE1, zE2⟩ := infos info_End
  have HIP := hide hiP
  have HZP0 := hide zP0
  have HZP1 := hide zP1
  have HZP2 := hide zP2
  have HIE := hide hiE
  have HZE0 := hide zE0
  have HZE1 := hide zE1
  have HZE2 := hide zE2
  have HB := hide hB
  have HO := hide ho
  have hbw := cell_lt hc.c0
  have hbA : Below w.heap.size w ((w.alloc (.cells #[.slice none 0 0, .slice none 0 0] 26)).alloc (.cells #[.slice none 0 0, .slice none 0 0] 26)) := ((Below.refl _ _).alloc (Nat.le_refl _) _).alloc (by simp) _
  have HNW0 : Hid (NW w ((w.alloc (.cells #[.slice none 0 0, .slice none 0 0] 26)).alloc (.cells #[.slice none 0 0, .slice none 0 0] 26)) b a code cap c (.slice none 0 0) (.slice none 0 0)) :=
    ⟨hc.later hbA, hx.later hbA, by simp [go_sem], by simp [go_sem], by simp [go_sem], by simp [go_sem], by simp [go_sem], by simp [go_sem], by simp [go_sem], by simp [go_sem], Mid.of_below hbA, hbw, ho⟩
  clear hiP zP0 zP1 zP2 hiE zE0 zE1 zE2 hB ho hc hx hbA
  go_enter Try.func18, Try.ntmps18
  go_wp2_with fail
  generalize ((w.alloc (.cells #[.slice none 0 0, .slice none 0 0] 26)).alloc (.cells #[.slice none 0 0, .slice none 0 0] 26)) = w1 at HNW0 ⊢
  refine (pick_any b a cap code c 4 _ HB.out (by omega) hn HO.out (by omega) (by omega) HNW0.out.cur HNW0.out.bys).mono ?_
  rintro e w2 ⟨rfl, hc2, hm2⟩
  have HNW2 := hide (HNW0.out.call hc2 hm2)
  have hs4 := pickV_bd (code := code) (n := 4) (by omega) c
  have hc1a := pickC_at code 4 c
  clear hc2 hm2 HNW0
  generalize hsm : pickV code 4 c = small at hs4 ⊢
  have HSM := hide hsm
  generalize hcc1 : pickC code 4 c = c1 at hc1a HNW2
  have HC1 := hide hcc1
  clear hsm hcc1
  go_wp2_with fail
  refine (pick_any b a cap code c1 9 _ HB.out (by omega) hn HO.out (by omega) (by omega) HNW2.out.cur HNW2.out.bys).mono ?_
  rintro e w3 ⟨rfl, hc3, hm3⟩
  have HNW3 := hide (HNW2.out.call hc3 hm3)
  have hk9 := pickV_bd (code := code) (n := 9) (by omega) c1
  have hc2a := pickC_at code 9 c1
  clear hc3 hm3 HNW2
  generalize hcc2 : pickC code 9 c1 = c2 at hc2a HNW3
  have HC2 := hide hcc2
  obtain ⟨K, hK⟩ := Int.eq_ofNat_of_zero_le (show 0 ≤ 1 + pickV code 9 c1 by omega)
  have HKK := hide hK
  have hK9 : 1 ≤ K ∧ K ≤ 9 := by omega
  generalize hk9e : pickV code 9 c1 = k9 at hk9 hK HKK ⊢
  have HK9 := hide hk9e
  clear hk9e
  clear hcc2
  go_wp2_with fail
  clear hK
  go_loopw [4, 6, 8] (fun ev i _ wr => ∃ (k : Nat) (pv : Value), k ≤ K ∧ i = .int .i64 k ∧ Hid (NW w wr b a code cap (pcsTo code small c2 k).2 pv (.slice none 0 0)) ∧ Hid (wr.ownsRow (w.heap.size + 2) 41 4 pv k (pcCells (pcsTo code small c2 k).1)) ∧ Hid (wr.ownsRow (w.heap.size + 2) 59 2 ev (2 * k) (endCells (endsTo k)))) (fun _ i _ _ => K - (intOf i).toNat)
  case atStart => exact ⟨0, .slice none 0 0, Nat.zero_le _, rfl, HNW3.out, World.ownsRow_nil _ _ _ _, World.ownsRow_nil _ _ _ _⟩
  case round =>
    obtain ⟨k, pv, hk, rfl, HNW, HPR, HER⟩ := hrel
    have hca := pcsTo_at code small c2 k
    by_cases hlt : k < K
    · have HPT := hide (show pcsTo code small c2 (k + 1) = ((pcsTo code small c2 k).1 ++ [pcDraw code small k (pcsTo code small c2 k).2], pcNext code small (pcsTo code small c2 k).2) from rfl)
      have HPL := hide (pcsTo_len code small c2 k)
      generalize hcu : (pcsTo code small c2 k).2 = cu at *
      generalize hps : (pcsTo code small c2 k).1 = ps at *
      clear hcu hps
      have hw3 := wideV_bd (code := code) (n := 300) (by omega) cu
      have hp4 := pickV_bd (code := code) (n := 4) (by omega) (wideC code cu)
      have hwa := wideC_at code cu
      go_wp2_with fail
      refine (wide_any b a cap code cu 300 _ HB.out (by omega) hn HO.out (by omega) (by omega) HNW.out.cur HNW.out.bys).mono ?_
      rintro e w4 ⟨rfl, hc4, hm4⟩
      have HNW4 := hide (HNW.out.call hc4 hm4)
      have HPR4 := hide (owns_mid HPR.out hm4 (by omega))
      have HER4 := hide (owns_mid HER.out hm4 (by omega))
      clear hc4 hm4 HNW HPR HER
      have hc2b := pcC2_at code small cu
      have hn0 := nextV_bd HB.out cu
      by_cases hs0 : small = 0
      · subst hs0
        have HLN := hide (show pcLen code 0 cu = 1 + pickV code 4 (wideC code cu) by unfold pcLen; rw [if_pos rfl])
        have HCU := hide (show pcC2 code 0 cu = pickC code 4 (wideC code cu) by unfold pcC2; rw [if_pos rfl])
        go_wp2_with fail
        refine (pick_any b a cap code (wideC code cu) 4 _ HB.out (by omega) hn HO.out (by omega) (by omega) HNW4.out.cur HNW4.out.bys).mono ?_
        rintro e w5 ⟨rfl, hc5, hm5⟩
        rw [← HCU.out] at hc5
        have HNW5 := hide (HNW4.out.call hc5 hm5)
        have HPR5 := hide (owns_mid HPR4.out hm5 (by omega))
        have HER5 := hide (owns_mid HER4.out hm5 (by omega))
        clear hc5 hm5 HNW4 HPR4 HER4
        generalize hcv : pcC2 code 0 cu = cv at *
        have HCV := hide hcv
        clear hcv HCU
        have hp200 := pickV_bd (code := code) (n := 200) (by omega) cv
        have hp90 := pickV_bd (code := code) (n := 90) (by omega) (pickC code 200 cv)
        have hca2 := pickC_at code 200 cv
        have HNX := hide (show pcNext code 0 cu = pickC code 90 (pickC code 200 cv) by unfold pcNext; rw [HCV.out])
        have HPD := hide (show pcDraw code 0 k cu = ⟨nameP k, (1 + pickV code 4 (wideC code cu)), 1 + pickV code 200 cv, 1 + pickV code 90 (pickC code 200 cv)⟩ by unfold pcDraw; rw [HCV.out, HLN.out])
        have hw200 := w64_1 hp200.1 (by omega)
        have hw90 := w64_1 hp90.1 (by omega)
        have n5 := HNW5.out.n0
        have hz5 := HNW5.out.size
        have hml : k + 1 ≤ maxLen := by unfold maxLen; omega
        go_upto_region 10 with fail
        go_cut [4] from 21 to 56 (fun s4 wx => s4 = u4 ∧ ∃ pv', Hid (NW w wx b a code cap (pickC code 90 (pickC code 200 cv)) pv' (.slice none 0 0)) ∧ Hid (wx.ownsRow (w.heap.size + 2) 41 4 pv' (k + 1) (pcCells (ps ++ [⟨nameP k, (1 + pickV code 4 (wideC code cu)), 1 + pickV code 200 cv, 1 + pickV code 90 (pickC code 200 cv)⟩]))) ∧ Hid (wx.ownsRow (w.heap.size + 2) 59 2 u4 (2 * k) (endCells (endsTo k))))
        case first =>
          have HNW6 := hide (HNW5.out.later ((Below.refl _ _).drew))
          have HPR6 := hide (owns_later' HPR5.out ((Below.refl _ _).drew))
          have HER6 := hide (owns_later' HER5.out ((Below.refl _ _).drew))
          have hw5z : w5.drew.heap.size = w5.heap.size := rfl
          go_region_law (first
            | (refine step_append_lies _ (by rfl) _ _ _ (by rfl) (w.heap.size + 2) 41 iP _ 4 40 Try.underlying23 HIP.out HZP0.out HZP1.out HZP2.out rfl (by omega) pv k (pcCells ps) (by rfl) (HPQ.out.alloc _) ⟨wQ.heap.size, 0, none⟩ 1 1 [.string (nameP k), .int .i64 (1 + pickV code 4 (wideC code cu)), .int .i64 (1 + pickV code 200 cv), .int .i64 (1 + pickV code 90 (pickC code 200 cv))] (by rfl) (by rfl) (World.news_of_block (heap_alloc_new _ _)) (by simp [Value.oneCell']) (by omega) hml (by omega) (by have := HNQ.out.size; simp; omega) _ rfl ?_; intro g2 cp2 w7 hown2 hgrow2 _ _; have HLT := hide (fun g h => (HPQ.out.lt g h).1); have HN7 := hide ((HNQ.out.later ((Below.refl _ _).alloc (Nat.le_refl _) _)).grown hgrow2 HLT.out); have HE7 := hide (owns_kept (HEQ.out.alloc _) (HPQ.out.alloc _) (by decide) hgrow2); have HO7 := hide hown2; have n7 := HN7.out.n0; have nf7 := HN7.out.nf0)
            | (go_simp; go_at_call 26; refine (name_any _ (k : Int) _ (by omega) (by omega)).mono ?_; rintro e wN ⟨rfl, hbN⟩; have HNN := hide (HNW6.out.later hbN); have HPN := hide (owns_later' HPR6.out hbN); have HEN := hide (owns_later' HER6.out hbN); have nN := HNN.out.n0)
            | (go_simp; go_at_call 19; refine (pick_any b a cap code (pickC code 200 cv) 90 _ HB.out (by omega) hn HO.out (by omega) (by omega) HNP.out.cur HNP.out.bys).mono ?_; rintro e wQ ⟨rfl, hcQ, hmQ⟩; have HNQ := hide (HNP.out.call hcQ hmQ); have HPQ := hide (owns_mid HPP.out hmQ (by omega)); have HEQ := hide (owns_mid HEP.out hmQ (by omega)); have nQ := HNQ.out.n0; have hlQ := cell_lt nQ)
            | (go_simp; go_at_call 19; refine (pick_any b a cap code cv 200 _ HB.out (by omega) hn HO.out (by omega) (by omega) HNN.out.cur HNN.out.bys).mono ?_; rintro e wP ⟨rfl, hcP, hmP⟩; have HNP := hide (HNN.out.call hcP hmP); have HPP := hide (owns_mid HPN.out hmP (by omega)); have HEP := hide (owns_mid HEN.out hmP (by omega)); have nP := HNP.out.n0))
          all_goals
            go_wp2_with fail
            go_meet
            refine ⟨rfl, _, HN7.out.set0 _, ?_, ?_⟩
            · show World.ownsRow _ _ _ _ _ _ _
              rw [pcCells_add]
              exact ownsRow_setCell_below HO7.out (by show w.heap.size + 1 < w.heap.size + 2; omega) _
            · exact ownsRow_setCell_below HE7.out (by show w.heap.size + 1 < w.heap.size + 2; omega) _
        case rest =>
          obtain ⟨rfl, pv', HN8, HP8, HE8⟩ := hcut
          rename World => w8
          have HLT2 := hide (fun g h => (HE8.out.lt g h).1)
          have hs8 := HN8.out.size
          have hml2 : 2 * k + 2 ≤ maxLen := by unfold maxLen; omega
          clear HNW5 HPR5 HER5 n5 hz5
          go_wp2_with (first
            | (at_builtin; (refine wpList_append_lies _ rfl _ _ _ rfl (w.heap.size + 2) 59 iE _ 2 16 Try.underlying51 HIE.out HZE0.out HZE1.out HZE2.out rfl (by omega) _ (2 * k) (endCells (endsTo k)) rfl (HE8.out.alloc _) ⟨w8.heap.size, 0, none⟩ 2 2 [.int .i64 k, .int .i64 0, .int .i64 k, .int .i64 1] rfl rfl (news_at rfl) (by simp [Value.oneCell']) (by omega) hml2 (by omega) (by simp; omega) _ rfl ?_); intro g3 cp3 w9 hown3 hgrow3 _ _))
          have HN9 := hide ((HN8.out.later ((Below.refl _ _).alloc (Nat.le_refl _) _)).grown hgrow3 HLT2.out)
          have HP9 := hide (owns_kept (HP8.out.alloc _) (HE8.out.alloc _) (by decide) hgrow3)
          refine ⟨⟨k + 1, pv', by omega, by go_num, ?_, ?_, ?_⟩, by simp [intOf]; omega⟩
          · show NW _ _ _ _ _ _ _ _ _
            rw [HPT.out]
            dsimp only
            rw [HNX.out]
            exact HN9.out
          · show World.ownsRow _ _ _ _ _ _ _
            rw [HPT.out]
            dsimp only
            rw [HPD.out]
            exact HP9.out
          · show World.ownsRow _ _ _ _ _ _ _
            rw [show endsTo (k + 1) = endsTo k ++ [((k : Int), 0), ((k : Int), 1)] from rfl, endCells_add]
            exact hown3
      · have q0 : (small == 0) = false := by rw [beq_eq_false_iff_ne]; exact hs0
        have HLN := hide (show pcLen code small cu = 1 + wideV code 300 cu by unfold pcLen; rw [if_neg hs0])
        have HCU := hide (show pcC2 code small cu = wideC code cu by unfold pcC2; rw [if_neg hs0])
        rw [← HCU.out] at HNW4
        clear hs0
        generalize hcv : pcC2 code small cu = cv at *
        have HCV := hide hcv
        clear hcv HCU
        have hp200 := pickV_bd (code := code) (n := 200) (by omega) cv
        have hp90 := pickV_bd (code := code) (n := 90) (by omega) (pickC code 200 cv)
        have hca2 := pickC_at code 200 cv
        have HNX := hide (show pcNext code small cu = pickC code 90 (pickC code 200 cv) by unfold pcNext; rw [HCV.out])
        have HPD := hide (show pcDraw code small k cu = ⟨nameP k, (1 + wideV code 300 cu), 1 + pickV code 200 cv, 1 + pickV code 90 (pickC code 200 cv)⟩ by unfold pcDraw; rw [HCV.out, HLN.out])
        have hw200 := w64_1 hp200.1 (by omega)
        have hw90 := w64_1 hp90.1 (by omega)
        have n5 := HNW4.out.n0
        have hz5 := HNW4.out.size
        have hml : k + 1 ≤ maxLen := by unfold maxLen; omega
        go_upto_region 10 with fail
        go_cut [4] from 21 to 56 (fun s4 wx => s4 = u4 ∧ ∃ pv', Hid (NW w wx b a code cap (pickC code 90 (pickC code 200 cv)) pv' (.slice none 0 0)) ∧ Hid (wx.ownsRow (w.heap.size + 2) 41 4 pv' (k + 1) (pcCells (ps ++ [⟨nameP k, (1 + wideV code 300 cu), 1 + pickV code 200 cv, 1 + pickV code 90 (pickC code 200 cv)⟩]))) ∧ Hid (wx.ownsRow (w.heap.size + 2) 59 2 u4 (2 * k) (endCells (endsTo k))))
        case first =>
          have HNW6 := hide (HNW4.out.later ((Below.refl _ _).drew))
          have HPR6 := hide (owns_later' HPR4.out ((Below.refl _ _).drew))
          have HER6 := hide (owns_later' HER4.out ((Below.refl _ _).drew))
          have hw4z : w4.drew.heap.size = w4.heap.size := rfl
          go_region_law (first
            | (refine step_append_lies _ (by rfl) _ _ _ (by rfl) (w.heap.size + 2) 41 iP _ 4 40 Try.underlying23 HIP.out HZP0.out HZP1.out HZP2.out rfl (by omega) pv k (pcCells ps) (by rfl) (HPQ.out.alloc _) ⟨wQ.heap.size, 0, none⟩ 1 1 [.string (nameP k), .int .i64 (1 + wideV code 300 cu), .int .i64 (1 + pickV code 200 cv), .int .i64 (1 + pickV code 90 (pickC code 200 cv))] (by rfl) (by rfl) (World.news_of_block (heap_alloc_new _ _)) (by simp [Value.oneCell']) (by omega) hml (by omega) (by have := HNQ.out.size; simp; omega) _ rfl ?_; intro g2 cp2 w7 hown2 hgrow2 _ _; have HLT := hide (fun g h => (HPQ.out.lt g h).1); have HN7 := hide ((HNQ.out.later ((Below.refl _ _).alloc (Nat.le_refl _) _)).grown hgrow2 HLT.out); have HE7 := hide (owns_kept (HEQ.out.alloc _) (HPQ.out.alloc _) (by decide) hgrow2); have HO7 := hide hown2; have n7 := HN7.out.n0; have nf7 := HN7.out.nf0)
            | (go_simp; go_at_call 26; refine (name_any _ (k : Int) _ (by omega) (by omega)).mono ?_; rintro e wN ⟨rfl, hbN⟩; have HNN := hide (HNW6.out.later hbN); have HPN := hide (owns_later' HPR6.out hbN); have HEN := hide (owns_later' HER6.out hbN); have nN := HNN.out.n0)
            | (go_simp; go_at_call 19; refine (pick_any b a cap code (pickC code 200 cv) 90 _ HB.out (by omega) hn HO.out (by omega) (by omega) HNP.out.cur HNP.out.bys).mono ?_; rintro e wQ ⟨rfl, hcQ, hmQ⟩; have HNQ := hide (HNP.out.call hcQ hmQ); have HPQ := hide (owns_mid HPP.out hmQ (by omega)); have HEQ := hide (owns_mid HEP.out hmQ (by omega)); have nQ := HNQ.out.n0; have hlQ := cell_lt nQ)
            | (go_simp; go_at_call 19; refine (pick_any b a cap code cv 200 _ HB.out (by omega) hn HO.out (by omega) (by omega) HNN.out.cur HNN.out.bys).mono ?_; rintro e wP ⟨rfl, hcP, hmP⟩; have HNP := hide (HNN.out.call hcP hmP); have HPP := hide (owns_mid HPN.out hmP (by omega)); have HEP := hide (owns_mid HEN.out hmP (by omega)); have nP := HNP.out.n0))
          all_goals
            go_wp2_with fail
            go_meet
            refine ⟨rfl, _, HN7.out.set0 _, ?_, ?_⟩
            · show World.ownsRow _ _ _ _ _ _ _
              rw [pcCells_add]
              exact ownsRow_setCell_below HO7.out (by show w.heap.size + 1 < w.heap.size + 2; omega) _
            · exact ownsRow_setCell_below HE7.out (by show w.heap.size + 1 < w.heap.size + 2; omega) _
        case rest =>
          obtain ⟨rfl, pv', HN8, HP8, HE8⟩ := hcut
          rename World => w8
          have HLT2 := hide (fun g h => (HE8.out.lt g h).1)
          have hs8 := HN8.out.size
          have hml2 : 2 * k + 2 ≤ maxLen := by unfold maxLen; omega
          clear HNW4 HPR4 HER4 n5 hz5
          go_wp2_with (first
            | (at_builtin; (refine wpList_append_lies _ rfl _ _ _ rfl (w.heap.size + 2) 59 iE _ 2 16 Try.underlying51 HIE.out HZE0.out HZE1.out HZE2.out rfl (by omega) _ (2 * k) (endCells (endsTo k)) rfl (HE8.out.alloc _) ⟨w8.heap.size, 0, none⟩ 2 2 [.int .i64 k, .int .i64 0, .int .i64 k, .int .i64 1] rfl rfl (news_at rfl) (by simp [Value.oneCell']) (by omega) hml2 (by omega) (by simp; omega) _ rfl ?_); intro g3 cp3 w9 hown3 hgrow3 _ _))
          have HN9 := hide ((HN8.out.later ((Below.refl _ _).alloc (Nat.le_refl _) _)).grown hgrow3 HLT2.out)
          have HP9 := hide (owns_kept (HP8.out.alloc _) (HE8.out.alloc _) (by decide) hgrow3)
          refine ⟨⟨k + 1, pv', by omega, by go_num, ?_, ?_, ?_⟩, by simp [intOf]; omega⟩
          · show NW _ _ _ _ _ _ _ _ _
            rw [HPT.out]
            dsimp only
            rw [HNX.out]
            exact HN9.out
          · show World.ownsRow _ _ _ _ _ _ _
            rw [HPT.out]
            dsimp only
            rw [HPD.out]
            exact HP9.out
          · show World.ownsRow _ _ _ _ _ _ _
            rw [show endsTo (k + 1) = endsTo k ++ [((k : Int), 0), ((k : Int), 1)] from rfl, endCells_add]
            exact hown3
    · obtain rfl : k = K := by omega
      obtain ⟨g, cp, hu4, hgb, hgl⟩ := HER.out.form (by omega)
      subst hu4
      generalize hcu : (pcsTo code small c2 k).2 = cu at *
      generalize hps : (pcsTo code small c2 k).1 = ps at *
      have HPT := hide (And.intro hcu hps)
      clear hcu hps
      have HPL := hide (endsTo_len k)
      generalize hR : shuf code (2 * k - 1) (endsTo k) cu = R
      have HR := hide hR
      clear hR
      go_wp2_with fail
      go_loopw [9, 10, 11, 12] (fun i _ _ _ wx => ∃ (n : Nat) (es : List (Int × Int)) (cv : Cu), i = .int .i64 n ∧ n < 2 * k ∧ es.length = 2 * k ∧ cv.at' + 4 * n ≤ 2000 ∧ Hid (NW w wx b a code cap cv pv (.slice none 0 0)) ∧ Hid (wx.ownsRow (w.heap.size + 2) 41 4 pv k (pcCells ps)) ∧ Hid (wx.ownsRow (w.heap.size + 2) 59 2 (.slice (some ⟨g, 0, none⟩) (2 * k) cp) (2 * k) (endCells es)) ∧ Hid (shuf code n es cv = R)) (fun i _ _ _ _ => (intOf i).toNat)
      case atStart => exact ⟨2 * k - 1, endsTo k, cu, by congr 1; omega, by omega, HPL.out, by omega, HNW.out, HPR.out, HER.out, HR.out⟩
      case round =>
        clear HNW HPR HER
        obtain ⟨n, es, cv, rfl, hnk, hel, hcva, HNW, HPR, HER, HSH⟩ := hrel
        by_cases hn0 : 0 < n
        · have HSI := hide (show shufI code n cv = (n : Int) - pickV code ((n : Int) + 1) cv / (1 + pickV code 3 (pickC code ((n : Int) + 1) cv)) from rfl)
          have HSC := hide (show shufC code n cv = pickC code 3 (pickC code ((n : Int) + 1) cv) from rfl)
          have hsb := shufI_bd code n cv
          have hsa := shufC_at code n cv
          have HSN := hide (show shuf code (n - 1) (swapAt es n (shufI code n cv).toNat) (shufC code n cv) = R by
            have := HSH.out
            obtain ⟨m, rfl⟩ : ∃ m, n = m + 1 := ⟨n - 1, by omega⟩
            exact this)
          have hp1 := pickV_bd (code := code) (n := (n : Int) + 1) (by omega) cv
          have hp2 := pickV_bd (code := code) (n := 3) (by omega) (pickC code ((n : Int) + 1) cv)
          have hpa := pickC_at code ((n : Int) + 1) cv
          have hdv : 0 ≤ pickV code ((n : Int) + 1) cv / (1 + pickV code 3 (pickC code ((n : Int) + 1) cv)) := Int.ediv_nonneg hp1.1 (by omega)
          have hdv2 : pickV code ((n : Int) + 1) cv / (1 + pickV code 3 (pickC code ((n : Int) + 1) cv)) ≤ pickV code ((n : Int) + 1) cv := Int.ediv_le_self _ hp1.1
          go_wp2_with fail
          refine (pick_any b a cap code cv ((n : Int) + 1) _ HB.out (by omega) hn HO.out (by omega) (by omega) HNW.out.cur HNW.out.bys).mono ?_
          rintro e w4 ⟨rfl, hc4, hm4⟩
          have HNW4 := hide (HNW.out.call hc4 hm4)
          have HPR4 := hide (owns_mid HPR.out hm4 (by omega))
          have HER4 := hide (owns_mid HER.out hm4 (by omega))
          clear hc4 hm4 HNW HPR HER
          go_wp2_with fail
          refine (pick_any b a cap code (pickC code ((n : Int) + 1) cv) 3 _ HB.out (by omega) hn HO.out (by omega) (by omega) HNW4.out.cur HNW4.out.bys).mono ?_
          rintro e w5 ⟨rfl, hc5, hm5⟩
          rw [← HSC.out] at hc5
          have HNW5 := hide (HNW4.out.call hc5 hm5)
          have HPR5 := hide (owns_mid HPR4.out hm5 (by omega))
          have HER5 := hide (owns_mid HER4.out hm5 (by omega))
          clear hc5 hm5 HNW4 HPR4 HER4
          obtain ⟨m, hm⟩ := Int.eq_ofNat_of_zero_le hsb.1
          have hmn : m ≤ n := by omega
          have hmt : (shufI code n cv).toNat = m := by omega
          rw [hmt] at HSN
          have hkm : (n : Int) - pickV code ((n : Int) + 1) cv / (1 + pickV code 3 (pickC code ((n : Int) + 1) cv)) = (m : Int) := by rw [← HSI.out]; exact hm
          generalize pickV code ((n : Int) + 1) cv = q1 at *
          generalize pickV code 3 (pickC code ((n : Int) + 1) cv) = q2 at *
          clear hm hmt HSI hsb
          obtain ⟨x0, x1, xf0, xf1⟩ := ends_get HER5.out hel (k := n) (by omega)
          obtain ⟨y0, y1, yf0, yf1⟩ := ends_get HER5.out hel (k := m) (by omega)
          have hzw := HNW5.out.size
          have hgl5 := cell_lt x0
          have hpg : pv.ownBlock ≠ some g := by
            rcases owns_ne HPR5.out HER5.out (by decide) with h | h
            · rw [h]; simp
            · exact h
          generalize hxv : es[n] = xv at x0 x1
          generalize hyv : es[m] = yv at y0 y1
          have HSW := hide (show swapAt es n m = (es.set n yv).set m xv by
            unfold swapAt
            rw [← hxv, ← hyv]
            simp [show n < es.length by omega, show m < es.length by omega])
          clear hxv hyv
          go_upto_region 18 with fail
          have hA6 : Below w5.heap.size w5 ((w5.alloc (.cells #[.int .i64 xv.1, .int .i64 xv.2] 59)).alloc (.cells #[.int .i64 yv.1, .int .i64 yv.2] 59)) := ((Below.refl _ _).alloc (Nat.le_refl _) _).alloc (by simp) _
          have HNW6 := hide (HNW5.out.later hA6)
          have HPR6 := hide (owns_later' HPR5.out hA6)
          have HER6 := hide (owns_later' HER5.out hA6)
          have bx0 : ((w5.alloc (.cells #[.int .i64 xv.1, .int .i64 xv.2] 59)).alloc (.cells #[.int .i64 yv.1, .int .i64 yv.2] 59)).cell? ⟨w5.heap.size, 0, none⟩ = some (.int .i64 xv.1) := by simp [go_sem]
          have bx1 : ((w5.alloc (.cells #[.int .i64 xv.1, .int .i64 xv.2] 59)).alloc (.cells #[.int .i64 yv.1, .int .i64 yv.2] 59)).cell? ⟨w5.heap.size, 1, none⟩ = some (.int .i64 xv.2) := by simp [go_sem]
          have by0 : ((w5.alloc (.cells #[.int .i64 xv.1, .int .i64 xv.2] 59)).alloc (.cells #[.int .i64 yv.1, .int .i64 yv.2] 59)).cell? ⟨w5.heap.size + 1, 0, none⟩ = some (.int .i64 yv.1) := by simp [go_sem]
          have by1 : ((w5.alloc (.cells #[.int .i64 xv.1, .int .i64 xv.2] 59)).alloc (.cells #[.int .i64 yv.1, .int .i64 yv.2] 59)).cell? ⟨w5.heap.size + 1, 1, none⟩ = some (.int .i64 yv.2) := by simp [go_sem]
          clear x0 x1 y0 y1 xf0 xf1 yf0 yf1 hA6 HNW5 HPR5 HER5
          generalize (w5.alloc (.cells #[.int .i64 xv.1, .int .i64 xv.2] 59)).alloc (.cells #[.int .i64 yv.1, .int .i64 yv.2] 59) = w6 at *
          obtain ⟨x0, x1, xf0, xf1⟩ := ends_get HER6.out hel (k := n) (by omega)
          have bxg : ((w6.setCell ⟨g, n * 2, none⟩ (.int .i64 yv.1)).setCell ⟨g, n * 2 + 1, none⟩ (.int .i64 yv.2)).cell? ⟨w5.heap.size, 0, none⟩ = some (.int .i64 xv.1) := by
            rw [World.cell?_setCell_far _ ⟨g, n * 2 + 1, none⟩ ⟨w5.heap.size, 0, none⟩ _ (by show g ≠ w5.heap.size; omega), World.cell?_setCell_far _ ⟨g, n * 2, none⟩ ⟨w5.heap.size, 0, none⟩ _ (by show g ≠ w5.heap.size; omega)]; exact bx0
          have bxh : ((w6.setCell ⟨g, n * 2, none⟩ (.int .i64 yv.1)).setCell ⟨g, n * 2 + 1, none⟩ (.int .i64 yv.2)).cell? ⟨w5.heap.size, 1, none⟩ = some (.int .i64 xv.2) := by
            rw [World.cell?_setCell_far _ ⟨g, n * 2 + 1, none⟩ ⟨w5.heap.size, 1, none⟩ _ (by show g ≠ w5.heap.size; omega), World.cell?_setCell_far _ ⟨g, n * 2, none⟩ ⟨w5.heap.size, 1, none⟩ _ (by show g ≠ w5.heap.size; omega)]; exact bx1
          go_upto_region 19 with fail
          have HNW7 := hide ((HNW6.out.setOther (B := g) (o := n * 2) hgb (.int .i64 yv.1)).setOther (B := g) (o := n * 2 + 1) hgb (.int .i64 yv.2))
          have HPR7 := hide (ownsRow_setCell_other (ownsRow_setCell_other HPR6.out (a := (⟨g, n * 2, none⟩ : Addr)) hpg (.int .i64 yv.1)) (a := (⟨g, n * 2 + 1, none⟩ : Addr)) hpg (.int .i64 yv.2))
          have HER7 := hide (ends_put HER6.out (k := n) (by omega) yv.1 yv.2)
          clear x0 x1 xf0 xf1 bx0 bx1 by0 by1 HNW6 HPR6 HER6
          generalize (w6.setCell ⟨g, n * 2, none⟩ (.int .i64 yv.1)).setCell ⟨g, n * 2 + 1, none⟩ (.int .i64 yv.2) = w7 at *
          have hel7 : (es.set n (yv.1, yv.2)).length = 2 * k := by simp [hel]
          obtain ⟨y0, y1, yf0, yf1⟩ := ends_get HER7.out hel7 (k := m) (by omega)
          go_wp2_with fail
          refine ⟨⟨n - 1, (es.set n yv).set m xv, shufC code n cv, by congr 1; omega, by omega, by simp [hel], by omega, (HNW7.out.setOther hgb _).setOther hgb _, ownsRow_setCell_other (ownsRow_setCell_other HPR7.out hpg _) hpg _, ends_put HER7.out (by omega) xv.1 xv.2, ?_⟩, by simp [intOf]; omega⟩
          show shuf _ _ _ _ = _
          rw [← HSW.out]
          exact HSN.out
        · obtain rfl : n = 0 := by omega
          have HRE := hide (show (es, cv) = R from HSH.out)
          have HELN := hide hel
          generalize hRJ : jrun code es.length [] es cv = RJ
          have HRJ := hide hRJ
          clear hRJ HSH hn0 hnk
          have hcva : cv.at' ≤ 2000 := by omega
          obtain ⟨iJ, hiJ, zJ0, zJ1, zJ2⟩ := infos info_Joint
          have HIJ := hide hiJ
          have HZJ0 := hide zJ0
          have HZJ1 := hide zJ1
          have HZJ2 := hide zJ2
          clear hiJ zJ0 zJ1 zJ2
          have hnsz := HNW.out.size
          go_wp2_with fail
          go_loopw [4, 13, 14, 15] (fun s4 _ _ _ wx => L3E w wx b a code cap pv ps k g RJ s4) (fun s4 _ _ _ _ => match s4 with | .slice _ n _ => n | _ => 0)
          case atStart =>
            refine ⟨0, 0, cp, [], .slice none 0 0, es, cv, by rw [hel], by omega, ?_, by simp, by omega, ends_at_of HER.out hel, hgb, (HER.out.lt g rfl).2, HNW.out, HPR.out, ?_, JR.nil _ _, HRJ.out⟩
            · rcases HER.out.2 with ⟨h, _⟩ | ⟨g', cap', cur, h, _, _, h2, _⟩
              · simp at h
              · simp at h; omega
            · rcases HER.out.2 with ⟨h, _⟩ | ⟨g', cap', cur, h, _, h3, _⟩
              · simp at h
              · simp at h
                obtain ⟨rfl, _⟩ := h
                exact ⟨cur, _, h3⟩
          case round =>
            clear HNW HPR HER
            obtain ⟨d, od, cq, js, jv, es', cw, rfl, hL3⟩ := hrel
            have hde := hL3.sum
            have hec := hL3.room
            have hjd := hL3.few
            have hcwa := hL3.at'
            have HEA := hide hL3.ea
            have hgl2 := hL3.gl
            have HNW := hide hL3.nw
            have HPR := hide hL3.pr
            have HTY := hide hL3.ty
            have HJR := hide hL3.jr
            have HJN := hide hL3.run
            clear hL3
            by_cases he0 : 0 < es'.length
            · have hkb := jtKind_bd code es' cw he0
              have HJN2 := hide (show jrun code (es'.drop (jtKind code es' cw).toNat).length (js.map (·.jt) ++ [jtDraw code js.length es' cw]) (es'.drop (jtKind code es' cw).toNat) (pickC code 7 cw) = RJ by
                rw [← HJN.out]
                obtain ⟨f, hf⟩ : ∃ f, es'.length = f + 1 := ⟨es'.length - 1, by omega⟩
                conv => rhs; rw [hf, jrun, if_neg (by omega)]
                rw [List.length_map]
                exact jrun_fuel code _ _ _ _ _ (Nat.le_refl _) (by simp; omega))
              have HJD := hide (show jtDraw code js.length es' cw = ⟨jtKind code es' cw, if 3 ≤ jtKind code es' cw then nameP (100 + (js.length : Int)) else ⟨#[]⟩, es'.take (jtKind code es' cw).toNat⟩ from rfl)
              have HJK := hide (show jtKind code es' cw = if kindT (pickV code 7 cw) > (es'.length : Int) then 1 else kindT (pickV code 7 cw) from rfl)
              have hp7 := pickV_bd (code := code) (n := 7) (by omega) cw
              have hpa := pickC_at code 7 cw
              have he0i : decide ((0 : Int) < (es'.length : Int)) = true := by rw [decide_eq_true_iff]; omega
              go_wp2_with fail
              have hbT : Below wr.heap.size wr (wr.alloc (.cells #[.int .i64 1, .int .i64 2, .int .i64 2, .int .i64 3, .int .i64 3, .int .i64 3, .int .i64 4] 3)) := (Below.refl _ _).alloc (Nat.le_refl _) _
              have HTB := hide (show ∀ p : Nat, p < 7 → (wr.alloc (.cells #[.int .i64 1, .int .i64 2, .int .i64 2, .int .i64 3, .int .i64 3, .int .i64 3, .int .i64 4] 3)).cell? ⟨wr.heap.size, p, none⟩ = some (.int .i64 (kindT p)) from fun p hp => by
                rw [new_cell wr _ _ p _ (show (#[.int .i64 1, .int .i64 2, .int .i64 2, .int .i64 3, .int .i64 3, .int .i64 3, .int .i64 4] : Array Value)[p]? = some (.int .i64 (kindT p)) by
                  have : p = 0 ∨ p = 1 ∨ p = 2 ∨ p = 3 ∨ p = 4 ∨ p = 5 ∨ p = 6 := by omega
                  rcases this with rfl | rfl | rfl | rfl | rfl | rfl | rfl <;> rfl)])
              have HNW3 := hide (HNW.out.later hbT)
              have HPR3 := hide (owns_later' HPR.out hbT)
              have HJR3 := hide (HJR.out.later hbT)
              have HEA3 := hide (HEA.out.later hbT)
              have htz : wr.heap.size < (wr.alloc (.cells #[.int .i64 1, .int .i64 2, .int .i64 2, .int .i64 3, .int .i64 3, .int .i64 3, .int .i64 4] 3)).heap.size := by simp
              have hgz : g < (wr.alloc (.cells #[.int .i64 1, .int .i64 2, .int .i64 2, .int .i64 3, .int .i64 3, .int .i64 3, .int .i64 4] 3)).heap.size := by simp; omega
              have HTY3 := hide (show ∃ cs fr, (wr.alloc (.cells #[.int .i64 1, .int .i64 2, .int .i64 2, .int .i64 3, .int .i64 3, .int .i64 3, .int .i64 4] 3)).heap[g]? = some (.cells cs 59 fr) by
                obtain ⟨cs, fr, h⟩ := HTY.out
                exact ⟨cs, fr, by rw [hbT.block g hgl2]; exact h⟩)
              clear HNW HPR HJR HEA HTY hbT
              generalize wr.heap.size = tb at *
              generalize wr.alloc (.cells #[.int .i64 1, .int .i64 2, .int .i64 2, .int .i64 3, .int .i64 3, .int .i64 3, .int .i64 4] 3) = w3 at *
              refine (pick_any b a cap code cw 7 _ HB.out (by omega) hn HO.out (by omega) (by omega) HNW3.out.cur HNW3.out.bys).mono ?_
              rintro e w4 ⟨rfl, hc4, hm4⟩
              have HNW4 := hide (HNW3.out.call hc4 hm4)
              have HPR4 := hide (owns_mid HPR3.out hm4 (by omega))
              have HJR4 := hide (HJR3.out.mid hm4 (by omega))
              have hgb4 : b < g := by omega
              have HEA4 := hide (show EndsAt w4 (some ⟨g, od, none⟩) es' from fun i hi => by
                obtain ⟨xb, xo, e, h0, h1⟩ := HEA3.out i hi
                obtain ⟨rfl, rfl⟩ : g = xb ∧ od = xo := by simpa using e
                exact ⟨g, od, rfl, hm4.cell (.inr (by omega)) h0, hm4.cell (.inr (by omega)) h1⟩)
              have HTY4 := hide (show ∃ cs fr, w4.heap[g]? = some (.cells cs 59 fr) by
                obtain ⟨cs, fr, h⟩ := HTY3.out
                exact ⟨cs, fr, by rw [hm4.block g (by omega) (.inr (by omega))]; exact h⟩)
              have hg4 : g < w4.heap.size := by have := hm4.size; omega
              obtain ⟨pn, hpn⟩ := Int.eq_ofNat_of_zero_le hp7.1
              have hpn7 : pn < 7 := by omega
              have hs4w := hm4.size
              have htc : w4.cell? ⟨tb, pn, none⟩ = some (.int .i64 (kindT pn)) := hm4.cell (.inr (by have := HNW3.out.bw; omega)) (HTB.out pn hpn7)
              have hkt := kindT_bd (pn : Int)
              obtain ⟨kd, hkd⟩ := Int.eq_ofNat_of_zero_le (show 0 ≤ jtKind code es' cw by omega)
              rw [hkd] at HJN2 HJD HJK hkb
              rw [hpn] at HJK
              have hkdn : (kd : Int).toNat = kd := Int.toNat_natCast kd
              rw [hkdn] at HJN2 HJD
              have H1 := hide hkd
              rw [hpn]
              generalize pickC code 7 cw = cx at *
              clear hc4 hm4 HNW3 HPR3 HJR3 HEA3 HTY3 HTB hpn hkd hkdn HJN H1 htz hgz
              have hng4 := HNW4.out.size
              by_cases hgt : kindT (pn : Int) > (es'.length : Int)
              · have hgt' : decide ((es'.length : Int) < kindT (pn : Int)) = true := by rw [decide_eq_true_iff]; exact hgt
                have hkd1 : (kd : Int) = 1 := by rw [HJK.out, if_pos hgt]
                obtain rfl : kd = 1 := by omega
                have hbJ : Below w4.heap.size w4 (w4.alloc (.cells #[.int .i64 1, .string ⟨#[]⟩, .slice none 0 0] 53)) := (Below.refl _ _).alloc (Nat.le_refl _) _
                have HNW5 := hide (HNW4.out.later hbJ)
                have HPR5 := hide (owns_later' HPR4.out hbJ)
                have HJR5 := hide (HJR4.out.later hbJ)
                have HEA5 := hide (HEA4.out.later hbJ)
                have HJL := hide HJR4.out.low
                have HPL5 := hide (fun g' (h : pv.ownBlock = some g') => (HPR4.out.lt g' h).2)
                have HTY5 := hide (show ∃ cs fr, (w4.alloc (.cells #[.int .i64 1, .string ⟨#[]⟩, .slice none 0 0] 53)).heap[g]? = some (.cells cs 59 fr) by
                  obtain ⟨cs, fr, h⟩ := HTY4.out
                  exact ⟨cs, fr, by rw [hbJ.block g hg4]; exact h⟩)
                have j0 := new_cell w4 #[.int .i64 1, .string ⟨#[]⟩, .slice none 0 0] 53 0 _ rfl
                have j1 := new_cell w4 #[.int .i64 1, .string ⟨#[]⟩, .slice none 0 0] 53 1 _ rfl
                have j2 := new_cell w4 #[.int .i64 1, .string ⟨#[]⟩, .slice none 0 0] 53 2 _ rfl
                have jf : ∀ o, (w4.alloc (.cells #[.int .i64 1, .string ⟨#[]⟩, .slice none 0 0] 53)).frozen? ⟨w4.heap.size, o, none⟩ = false := fun o => by simp [go_sem]
                have HJF := hide jf
                have hz5 : (w4.alloc (.cells #[.int .i64 1, .string ⟨#[]⟩, .slice none 0 0] 53)).heap.size = w4.heap.size + 1 := by simp
                clear jf hbJ HNW4 HPR4 HJR4 HEA4 HTY4
                go_wp2_with fail
                clear htc
                generalize w4.alloc (.cells #[.int .i64 1, .string ⟨#[]⟩, .slice none 0 0] 53) = W5 at *
                generalize w4.heap.size = bj at *
                go_loopw [15] (fun i wx => L4E bj 1 1 W5 wx es' i) (fun i _ => 1 - (intOf i).toNat)
                case atStart => exact ⟨0, .slice none 0 0, Nat.zero_le _, rfl, Mid.refl _ _ _, ⟨j0, j1, j2⟩, HJF.out, World.ownsRow_nil _ _ _ _⟩
                case round =>
                  obtain ⟨x, v, hx, rfl, hMD, ⟨k0, k1, k2⟩, hFZ, hOW⟩ := hrel
                  have HMD := hide hMD
                  have HFZ := hide hFZ
                  have HOW := hide hOW
                  clear hMD hFZ hOW
                  have hbjl := cell_lt k0
                  by_cases hxl : x < 1
                  · have hxe : x < es'.length := by omega
                    obtain ⟨xb, xo, hxa, e0, e1⟩ := HEA5.out x hxe
                    obtain ⟨rfl, rfl⟩ : g = xb ∧ od = xo := by simpa using hxa
                    have e0 := HMD.out.cell (.inl (by omega)) e0
                    have e1 := HMD.out.cell (.inl (by omega)) e1
                    have hxi : (x : Int) < (es'.length : Int) := by omega
                    have hxk : decide ((x : Int) < 1) = true := by rw [decide_eq_true_iff]; omega
                    have hglx := cell_lt e0
                    have fz2 := HFZ.out 2
                    have HTK := hide (show es'.take (x + 1) = es'.take x ++ [es'[x]] from List.take_succ_eq_append_getElem hxe)
                    generalize es'[x] = ex at e0 e1 HTK
                    clear hxa
                    have hml : x + 1 ≤ maxLen := by unfold maxLen; omega
                    have HLT := hide (fun g h => (HOW.out.lt g h).1)
                    have HNE := hide (show some bj ≠ v.ownBlock from fun e => by have := HLT.out bj e.symm; omega)
                    go_upto_region 28 with fail
                    go_region_law (first
                      | (refine step_append_lies _ (by rfl) _ _ _ (by rfl) (bj + 1) 59 iE _ 2 16 Try.underlying51 HIE.out HZE0.out HZE1.out HZE2.out rfl (by omega) v x (endCells (es'.take x)) (by rfl) (HOW.out.alloc _) ⟨_, 0, none⟩ 1 1 [.int .i64 ex.1, .int .i64 ex.2] (by rfl) (by rfl) (World.news_of_block (heap_alloc_new _ _)) (by simp [Value.oneCell']) (by omega) hml (by omega) (by simp; omega) _ rfl ?_; intro g2 cp2 w7 hown2 hgrow2 _ _; have m2 := hgrow2.cell (cell_later' (((Below.refl wr.heap.size wr).alloc (Nat.le_refl _) _).drew) k2) HNE.out; have mf2 := (hgrow2.frozen_far ⟨bj, 2, none⟩ (by show bj < _; simp; omega) HNE.out).trans (frozen_later (((Below.refl wr.heap.size wr).alloc (Nat.le_refl _) _).drew) k2 fz2)))
                    all_goals
                      go_wp2_with fail
                      refine ⟨⟨x + 1, .slice (some ⟨g2, 0, none⟩) (x + 1) cp2, by omega, by go_num, ?_, ⟨?_, ?_, ?_⟩, ?_, ?_⟩, by simp [intOf]; omega⟩
                      · exact ((HMD.out.trans (Mid.of_below (((Below.refl wr.heap.size wr).alloc (Nat.le_refl _) _).drew))).grown hgrow2 (fun g e => by have := HLT.out g e; omega)).setCell (Nat.le_refl _) (by omega) _
                      · have := hgrow2.cell (cell_later' (((Below.refl wr.heap.size wr).alloc (Nat.le_refl _) _).drew) k0) HNE.out
                        simp [go_sem, this]
                      · have := hgrow2.cell (cell_later' (((Below.refl wr.heap.size wr).alloc (Nat.le_refl _) _).drew) k1) HNE.out
                        simp [go_sem, this]
                      · simp [go_sem, m2]
                      · intro o
                        have := (hgrow2.frozen_far ⟨bj, o, none⟩ (by show bj < _; simp; omega) HNE.out).trans (((((Below.refl wr.heap.size wr).alloc (Nat.le_refl _) _).drew).frozen (p := ⟨bj, o, none⟩) hbjl).trans (HFZ.out o))
                        simp [go_sem, this]
                      · rw [HTK.out, endCells_add1]
                        exact ownsRow_setCell_below hown2 (by show bj < bj + 1; omega) _
                  · obtain rfl : 1 = x := by omega
                    obtain ⟨eb, ec, hv, heb1, heb2⟩ := HOW.out.form (by omega)
                    subst hv
                    have hxk : decide ((1 : Int) < 1) = false := by rw [decide_eq_false_iff_not]; omega
                    have HNW6 := hide (HNW5.out.midUp HMD.out (by omega))
                    have HPR6 := hide (owns_midUp HPR5.out HMD.out HPL5.out)
                    have HJR6 := hide (HJR5.out.midUp HMD.out HJL.out)
                    have HGE6 := hide (HMD.out.block g (by omega) (.inl (by omega)))
                    have HEI6 := hide (show ∃ cs fr, wr.heap[eb]? = some (.cells cs 59 fr) by
                      rcases HOW.out.2 with ⟨h, _⟩ | ⟨g', cap', cur, h, _, h3, _⟩
                      · simp at h
                      · simp at h
                        obtain ⟨rfl, _⟩ := h
                        exact ⟨cur, _, h3⟩)
                    have HEE6 := hide (ends_at_of HOW.out (by simp; omega))
                    have HTY6 := hide (show ∃ cs fr, wr.heap[g]? = some (.cells cs 59 fr) by
                      obtain ⟨cs, fr, h⟩ := HTY5.out
                      exact ⟨cs, fr, by rw [HGE6.out]; exact h⟩)
                    obtain ⟨ja, jc, hjv⟩ : ∃ ja jc, jv = .slice ja js.length jc := by
                      rcases HJR6.out.own.2 with ⟨h, h0⟩ | ⟨g', cap', cur, h, _⟩
                      · exact ⟨none, 0, by rw [h, h0]⟩
                      · exact ⟨_, _, h⟩
                    subst hjv
                    have m1 := HNW6.out.n1
                    have mf1 := HNW6.out.nf1
                    have kf1 := HFZ.out 1
                    have hm1l := cell_lt m1
                    have hgbj : g < bj := by omega
                    have hml3 : js.length + 1 ≤ maxLen := by unfold maxLen; omega
                    have hjl : js.length ≤ 18 := by omega
                    clear HNW5 HPR5 HJR5 HOW HJF j0 j1 j2
                    have HJT := hide (show jtDraw code js.length es' cw = ⟨1, ⟨#[]⟩, es'.take 1⟩ by rw [HJD.out, if_neg (by omega)]; rfl)
                    have hq3 : decide ((3 : Int) ≤ 1) = false := by rw [decide_eq_false_iff_not]; omega
                    go_wp2_with (first
                      | (at_builtin; (refine wpList_append_lies _ rfl _ _ _ rfl (w.heap.size + 2) 53 iJ _ 3 48 Try.underlying24 HIJ.out HZJ0.out HZJ1.out HZJ2.out rfl (by omega) (.slice ja js.length jc) js.length (jtCells js) rfl (HJR6.out.own.alloc _) ⟨wr.heap.size, 0, none⟩ 1 1 [.int .i64 1, .string ⟨#[]⟩, .slice (some ⟨eb, 0, none⟩) 1 ec] rfl rfl (news_at rfl) (by simp [Value.oneCell']) (by omega) hml3 (by omega) (by simp; omega) _ rfl ?_); intro g3 cp3 w9 hown3 hgrow3 _ _; have HLT3 := hide (fun g h => (HJR6.out.own.lt g h).1); have HN9 := hide ((HNW6.out.later ((Below.refl _ _).alloc (Nat.le_refl _) _)).grown hgrow3 HLT3.out); have p1 := HN9.out.n1; have pf1 := HN9.out.nf1; have hp1l := cell_lt p1))
                    all_goals
                      have HGE9 := hide (show (w9.setCell ⟨w.heap.size + 1, 1, none⟩ (.slice (some ⟨g3, 0, none⟩) (js.length + 1) cp3)).heap[g]? = W5.heap[g]? from
                        (Below.heap_setCell _ _ _ _ (by show g ≠ w.heap.size + 1; omega)).trans ((hgrow3.block g (by simp; omega) (HJR6.out.other HTY6.out)).trans ((((Below.refl wr.heap.size wr).alloc (Nat.le_refl _) _).block g (by omega)).trans HGE6.out)))
                      have HJR9 := hide ((JR.add (t := ⟨⟨1, ⟨#[]⟩, es'.take 1⟩, some ⟨eb, 0, none⟩, ec⟩) (HJR6.out.later ((Below.refl wr.heap.size wr).alloc (Nat.le_refl _) _)) hgrow3 (by
                        have e1 : (es'.take 1).length = 1 := by simp; omega
                        dsimp only
                        rw [e1]
                        exact hown3) (by
                        obtain ⟨cs, fr, h⟩ := HEI6.out
                        exact ⟨eb, cs, fr, rfl, by omega, by rw [((Below.refl wr.heap.size wr).alloc (Nat.le_refl _) _).block eb heb2]; exact h, HEE6.out.later ((Below.refl wr.heap.size wr).alloc (Nat.le_refl _) _)⟩)).setBelow (B := w.heap.size + 1) (o := 1) (by omega) (.slice (some ⟨g3, 0, none⟩) (js.length + 1) cp3))
                      have HPR9 := hide (ownsRow_setCell_below (owns_kept (HPR6.out.alloc _) (HJR6.out.own.alloc _) (by decide) hgrow3) (a := (⟨w.heap.size + 1, 1, none⟩ : Addr)) (by show w.heap.size + 1 < w.heap.size + 2; omega) (.slice (some ⟨g3, 0, none⟩) (js.length + 1) cp3))
                      have hg9 : g < (w9.setCell ⟨w.heap.size + 1, 1, none⟩ (.slice (some ⟨g3, 0, none⟩) (js.length + 1) cp3)).heap.size := by
                        have := hgrow3.size
                        simp at this ⊢
                        omega
                      have HFIN := hide (show ∀ od', EndsAt (w9.setCell ⟨w.heap.size + 1, 1, none⟩ (.slice (some ⟨g3, 0, none⟩) (js.length + 1) cp3)) (some ⟨g, od', none⟩) (es'.drop 1) → L3E w (w9.setCell ⟨w.heap.size + 1, 1, none⟩ (.slice (some ⟨g3, 0, none⟩) (js.length + 1) cp3)) b a code cap pv ps k g RJ (.slice (some ⟨g, od', none⟩) (es'.length - 1) (cq - 1)) from fun od' hea => by
                        refine ⟨d + 1, od', cq - 1, js ++ [⟨⟨1, ⟨#[]⟩, es'.take 1⟩, some ⟨eb, 0, none⟩, ec⟩], .slice (some ⟨g3, 0, none⟩) (js.length + 1) cp3, es'.drop 1, cx, by rw [List.length_drop], ?_⟩
                        exact { sum := by simp; omega
                                room := by simp; omega
                                few := by simp; omega
                                at' := by omega
                                ea := hea
                                gb := hgb
                                gl := hg9
                                nw := HN9.out.set1 _
                                pr := HPR9.out
                                ty := by
                                  obtain ⟨cs, fr, h⟩ := HTY5.out
                                  exact ⟨cs, fr, by rw [HGE9.out]; exact h⟩
                                jr := HJR9.out
                                run := by
                                  rw [List.map_append]
                                  have := HJN2.out
                                  rw [HJT.out] at this
                                  exact this })
                      refine ⟨?_, by omega⟩
                      first
                        | exact HFIN.out (od + 1 * 2) (ends_drop (ends_block HEA5.out HGE9.out) 1)
                        | (have hz : cq - 1 = 0 := by omega
                           have := HFIN.out od (fun i hi => by simp at hi; omega)
                           rw [hz] at this
                           exact this)
              · skip
                have hkk : kindT (pn : Int) = (kd : Int) := by rw [HJK.out, if_neg hgt]
                have hgt' : decide ((es'.length : Int) < (kd : Int)) = false := by rw [decide_eq_false_iff_not]; omega
                have hgtN : decide (es'.length < kd) = false := by rw [decide_eq_false_iff_not]; omega
                clear hgt
                rw [hkk] at htc hkt
                have hbJ : Below w4.heap.size w4 (w4.alloc (.cells #[.int .i64 (kd : Int), .string ⟨#[]⟩, .slice none 0 0] 53)) := (Below.refl _ _).alloc (Nat.le_refl _) _
                have HNW5 := hide (HNW4.out.later hbJ)
                have HPR5 := hide (owns_later' HPR4.out hbJ)
                have HJR5 := hide (HJR4.out.later hbJ)
                have HEA5 := hide (HEA4.out.later hbJ)
                have HJL := hide HJR4.out.low
                have HPL5 := hide (fun g' (h : pv.ownBlock = some g') => (HPR4.out.lt g' h).2)
                have HTY5 := hide (show ∃ cs fr, (w4.alloc (.cells #[.int .i64 (kd : Int), .string ⟨#[]⟩, .slice none 0 0] 53)).heap[g]? = some (.cells cs 59 fr) by
                  obtain ⟨cs, fr, h⟩ := HTY4.out
                  exact ⟨cs, fr, by rw [hbJ.block g hg4]; exact h⟩)
                have j0 := new_cell w4 #[.int .i64 (kd : Int), .string ⟨#[]⟩, .slice none 0 0] 53 0 _ rfl
                have j1 := new_cell w4 #[.int .i64 (kd : Int), .string ⟨#[]⟩, .slice none 0 0] 53 1 _ rfl
                have j2 := new_cell w4 #[.int .i64 (kd : Int), .string ⟨#[]⟩, .slice none 0 0] 53 2 _ rfl
                have jf : ∀ o, (w4.alloc (.cells #[.int .i64 (kd : Int), .string ⟨#[]⟩, .slice none 0 0] 53)).frozen? ⟨w4.heap.size, o, none⟩ = false := fun o => by simp [go_sem]
                have HJF := hide jf
                have hz5 : (w4.alloc (.cells #[.int .i64 (kd : Int), .string ⟨#[]⟩, .slice none 0 0] 53)).heap.size = w4.heap.size + 1 := by simp
                clear jf hbJ HNW4 HPR4 HJR4 HEA4 HTY4
                go_wp2_with fail
                clear htc
                generalize w4.alloc (.cells #[.int .i64 (kd : Int), .string ⟨#[]⟩, .slice none 0 0] 53) = W5 at *
                generalize w4.heap.size = bj at *
                go_loopw [15] (fun i wx => L4E bj kd (kd : Int) W5 wx es' i) (fun i _ => kd - (intOf i).toNat)
                case atStart => exact ⟨0, .slice none 0 0, Nat.zero_le _, rfl, Mid.refl _ _ _, ⟨j0, j1, j2⟩, HJF.out, World.ownsRow_nil _ _ _ _⟩
                case round =>
                  obtain ⟨x, v, hx, rfl, hMD, ⟨k0, k1, k2⟩, hFZ, hOW⟩ := hrel
                  have HMD := hide hMD
                  have HFZ := hide hFZ
                  have HOW := hide hOW
                  clear hMD hFZ hOW
                  have hbjl := cell_lt k0
                  by_cases hxl : x < kd
                  · have hxe : x < es'.length := by omega
                    obtain ⟨xb, xo, hxa, e0, e1⟩ := HEA5.out x hxe
                    obtain ⟨rfl, rfl⟩ : g = xb ∧ od = xo := by simpa using hxa
                    have e0 := HMD.out.cell (.inl (by omega)) e0
                    have e1 := HMD.out.cell (.inl (by omega)) e1
                    have hxi : (x : Int) < (es'.length : Int) := by omega
                    have hxk : decide ((x : Int) < (kd : Int)) = true := by rw [decide_eq_true_iff]; omega
                    have hglx := cell_lt e0
                    have fz2 := HFZ.out 2
                    have HTK := hide (show es'.take (x + 1) = es'.take x ++ [es'[x]] from List.take_succ_eq_append_getElem hxe)
                    generalize es'[x] = ex at e0 e1 HTK
                    clear hxa
                    have hml : x + 1 ≤ maxLen := by unfold maxLen; omega
                    have HLT := hide (fun g h => (HOW.out.lt g h).1)
                    have HNE := hide (show some bj ≠ v.ownBlock from fun e => by have := HLT.out bj e.symm; omega)
                    go_upto_region 28 with fail
                    go_region_law (first
                      | (refine step_append_lies _ (by rfl) _ _ _ (by rfl) (bj + 1) 59 iE _ 2 16 Try.underlying51 HIE.out HZE0.out HZE1.out HZE2.out rfl (by omega) v x (endCells (es'.take x)) (by rfl) (HOW.out.alloc _) ⟨_, 0, none⟩ 1 1 [.int .i64 ex.1, .int .i64 ex.2] (by rfl) (by rfl) (World.news_of_block (heap_alloc_new _ _)) (by simp [Value.oneCell']) (by omega) hml (by omega) (by simp; omega) _ rfl ?_; intro g2 cp2 w7 hown2 hgrow2 _ _; have m2 := hgrow2.cell (cell_later' (((Below.refl wr.heap.size wr).alloc (Nat.le_refl _) _).drew) k2) HNE.out; have mf2 := (hgrow2.frozen_far ⟨bj, 2, none⟩ (by show bj < _; simp; omega) HNE.out).trans (frozen_later (((Below.refl wr.heap.size wr).alloc (Nat.le_refl _) _).drew) k2 fz2)))
                    all_goals
                      go_wp2_with fail
                      refine ⟨⟨x + 1, .slice (some ⟨g2, 0, none⟩) (x + 1) cp2, by omega, by go_num, ?_, ⟨?_, ?_, ?_⟩, ?_, ?_⟩, by simp [intOf]; omega⟩
                      · exact ((HMD.out.trans (Mid.of_below (((Below.refl wr.heap.size wr).alloc (Nat.le_refl _) _).drew))).grown hgrow2 (fun g e => by have := HLT.out g e; omega)).setCell (Nat.le_refl _) (by omega) _
                      · have := hgrow2.cell (cell_later' (((Below.refl wr.heap.size wr).alloc (Nat.le_refl _) _).drew) k0) HNE.out
                        simp [go_sem, this]
                      · have := hgrow2.cell (cell_later' (((Below.refl wr.heap.size wr).alloc (Nat.le_refl _) _).drew) k1) HNE.out
                        simp [go_sem, this]
                      · simp [go_sem, m2]
                      · intro o
                        have := (hgrow2.frozen_far ⟨bj, o, none⟩ (by show bj < _; simp; omega) HNE.out).trans (((((Below.refl wr.heap.size wr).alloc (Nat.le_refl _) _).drew).frozen (p := ⟨bj, o, none⟩) hbjl).trans (HFZ.out o))
                        simp [go_sem, this]
                      · rw [HTK.out, endCells_add1]
                        exact ownsRow_setCell_below hown2 (by show bj < bj + 1; omega) _
                  · obtain rfl : kd = x := by omega
                    obtain ⟨eb, ec, hv, heb1, heb2⟩ := HOW.out.form (by omega)
                    subst hv
                    have hxk : decide ((kd : Int) < (kd : Int)) = false := by rw [decide_eq_false_iff_not]; omega
                    have HNW6 := hide (HNW5.out.midUp HMD.out (by omega))
                    have HPR6 := hide (owns_midUp HPR5.out HMD.out HPL5.out)
                    have HJR6 := hide (HJR5.out.midUp HMD.out HJL.out)
                    have HGE6 := hide (HMD.out.block g (by omega) (.inl (by omega)))
                    have HEI6 := hide (show ∃ cs fr, wr.heap[eb]? = some (.cells cs 59 fr) by
                      rcases HOW.out.2 with ⟨h, _⟩ | ⟨g', cap', cur, h, _, h3, _⟩
                      · simp at h
                      · simp at h
                        obtain ⟨rfl, _⟩ := h
                        exact ⟨cur, _, h3⟩)
                    have HEE6 := hide (ends_at_of HOW.out (by simp; omega))
                    have HTY6 := hide (show ∃ cs fr, wr.heap[g]? = some (.cells cs 59 fr) by
                      obtain ⟨cs, fr, h⟩ := HTY5.out
                      exact ⟨cs, fr, by rw [HGE6.out]; exact h⟩)
                    obtain ⟨ja, jc, hjv⟩ : ∃ ja jc, jv = .slice ja js.length jc := by
                      rcases HJR6.out.own.2 with ⟨h, h0⟩ | ⟨g', cap', cur, h, _⟩
                      · exact ⟨none, 0, by rw [h, h0]⟩
                      · exact ⟨_, _, h⟩
                    subst hjv
                    have m1 := HNW6.out.n1
                    have mf1 := HNW6.out.nf1
                    have kf1 := HFZ.out 1
                    have hm1l := cell_lt m1
                    have hgbj : g < bj := by omega
                    have hml3 : js.length + 1 ≤ maxLen := by unfold maxLen; omega
                    have hjl : js.length ≤ 18 := by omega
                    clear HNW5 HPR5 HJR5 HOW HJF j0 j1 j2
                    by_cases h3 : 3 ≤ kd
                    · have hq3 : decide ((3 : Int) ≤ (kd : Int)) = true := by rw [decide_eq_true_iff]; omega
                      go_wp2_with fail
                      refine (name_any _ (100 + (js.length : Int)) _ (by omega) (by omega)).mono ?_
                      rintro e w7 ⟨rfl, hb7⟩
                      generalize hnm : nameP (100 + (js.length : Int)) = nm at *
                      have k0 := cell_later' hb7 k0
                      have k1 := cell_later' hb7 k1
                      have k2 := cell_later' hb7 k2
                      have kf1 : w7.frozen? ⟨bj, 1, none⟩ = false := by rw [hb7.frozen (p := ⟨bj, 1, none⟩) hbjl]; exact kf1
                      have HNW8 := hide ((HNW6.out.later hb7).setOther (B := bj) (o := 1) (by omega) (.string nm))
                      have HPR8 := hide (ownsRow_setCell_other (owns_later' HPR6.out hb7) (a := (⟨bj, 1, none⟩ : Addr)) (fun e => by have := HPL5.out bj e; omega) (.string nm))
                      have HJR8 := hide ((HJR6.out.later hb7).setUp (o := 1) HJL.out (.string nm))
                      have HBK := hide (show ∀ eb', eb' ≠ bj → eb' < wr.heap.size → (w7.setCell ⟨bj, 1, none⟩ (.string nm)).heap[eb']? = wr.heap[eb']? from fun eb' h1 h2 => (Below.heap_setCell _ _ _ _ h1).trans (hb7.block eb' h2))
                      have HGE8 := hide ((HBK.out g (by omega) (by omega)).trans HGE6.out)
                      have HEI8 := hide (show ∃ cs fr, (w7.setCell ⟨bj, 1, none⟩ (.string nm)).heap[eb]? = some (.cells cs 59 fr) by
                        obtain ⟨cs, fr, h⟩ := HEI6.out
                        exact ⟨cs, fr, by rw [HBK.out eb (by omega) heb2]; exact h⟩)
                      have HEE8 := hide (ends_block HEE6.out (HBK.out eb (by omega) heb2))
                      have HTY8 := hide (show ∃ cs fr, (w7.setCell ⟨bj, 1, none⟩ (.string nm)).heap[g]? = some (.cells cs 59 fr) by
                        obtain ⟨cs, fr, h⟩ := HTY6.out
                        exact ⟨cs, fr, by rw [HBK.out g (by omega) (by omega)]; exact h⟩)
                      have q0 : (w7.setCell ⟨bj, 1, none⟩ (.string nm)).cell? ⟨bj, 0, none⟩ = some (.int .i64 (kd : Int)) := by simp [go_sem, k0]
                      have q1 : (w7.setCell ⟨bj, 1, none⟩ (.string nm)).cell? ⟨bj, 1, none⟩ = some (.string nm) := by simp [go_sem, k1]
                      have q2 : (w7.setCell ⟨bj, 1, none⟩ (.string nm)).cell? ⟨bj, 2, none⟩ = some (.slice (some ⟨eb, 0, none⟩) kd ec) := by simp [go_sem, k2]
                      have hs7 : wr.heap.size ≤ (w7.setCell ⟨bj, 1, none⟩ (.string nm)).heap.size := by have := hb7.size; simpa using this
                      clear hb7 m1 mf1 hm1l HBK hnm
                      go_upto_region 31 with fail
                      generalize w7.setCell ⟨bj, 1, none⟩ (.string nm) = w8 at *
                      have m1 := HNW8.out.n1
                      have mf1 := HNW8.out.nf1
                      have hm1l := cell_lt m1
                      have heb2 : eb < w8.heap.size := by omega
                      clear k0 k1 k2 kf1
                      have HJT := hide (show jtDraw code js.length es' cw = ⟨(kd : Int), nm, es'.take kd⟩ by rw [HJD.out, if_pos (by omega)])
                      go_wp2_with (first
                        | (at_builtin; (refine wpList_append_lies _ rfl _ _ _ rfl (w.heap.size + 2) 53 iJ _ 3 48 Try.underlying24 HIJ.out HZJ0.out HZJ1.out HZJ2.out rfl (by omega) (.slice ja js.length jc) js.length (jtCells js) rfl (HJR8.out.own.alloc _) ⟨w8.heap.size, 0, none⟩ 1 1 [.int .i64 (kd : Int), .string nm, .slice (some ⟨eb, 0, none⟩) kd ec] rfl rfl (news_at rfl) (by simp [Value.oneCell']) (by omega) hml3 (by omega) (by simp; omega) _ rfl ?_); intro g3 cp3 w9 hown3 hgrow3 _ _; have HLT3 := hide (fun g h => (HJR8.out.own.lt g h).1); have HN9 := hide ((HNW8.out.later ((Below.refl _ _).alloc (Nat.le_refl _) _)).grown hgrow3 HLT3.out); have p1 := HN9.out.n1; have pf1 := HN9.out.nf1; have hp1l := cell_lt p1))
                      all_goals
                        have HGE9 := hide (show (w9.setCell ⟨w.heap.size + 1, 1, none⟩ (.slice (some ⟨g3, 0, none⟩) (js.length + 1) cp3)).heap[g]? = W5.heap[g]? from
                          (Below.heap_setCell _ _ _ _ (by show g ≠ w.heap.size + 1; omega)).trans ((hgrow3.block g (by simp; omega) (HJR8.out.other HTY8.out)).trans ((((Below.refl w8.heap.size w8).alloc (Nat.le_refl _) _).block g (by omega)).trans HGE8.out)))
                        have HJR9 := hide ((JR.add (t := ⟨⟨(kd : Int), nm, es'.take kd⟩, some ⟨eb, 0, none⟩, ec⟩) (HJR8.out.later ((Below.refl w8.heap.size w8).alloc (Nat.le_refl _) _)) hgrow3 (by
                          have e1 : (es'.take kd).length = kd := by simp; omega
                          dsimp only
                          rw [e1]
                          exact hown3) (by
                          obtain ⟨cs, fr, h⟩ := HEI8.out
                          exact ⟨eb, cs, fr, rfl, by omega, by rw [((Below.refl w8.heap.size w8).alloc (Nat.le_refl _) _).block eb heb2]; exact h, HEE8.out.later ((Below.refl w8.heap.size w8).alloc (Nat.le_refl _) _)⟩)).setBelow (B := w.heap.size + 1) (o := 1) (by omega) (.slice (some ⟨g3, 0, none⟩) (js.length + 1) cp3))
                        have HPR9 := hide (ownsRow_setCell_below (owns_kept (HPR8.out.alloc _) (HJR8.out.own.alloc _) (by decide) hgrow3) (a := (⟨w.heap.size + 1, 1, none⟩ : Addr)) (by show w.heap.size + 1 < w.heap.size + 2; omega) (.slice (some ⟨g3, 0, none⟩) (js.length + 1) cp3))
                        have hg9 : g < (w9.setCell ⟨w.heap.size + 1, 1, none⟩ (.slice (some ⟨g3, 0, none⟩) (js.length + 1) cp3)).heap.size := by
                          have := hgrow3.size
                          simp at this ⊢
                          omega
                        have HFIN := hide (show ∀ od', EndsAt (w9.setCell ⟨w.heap.size + 1, 1, none⟩ (.slice (some ⟨g3, 0, none⟩) (js.length + 1) cp3)) (some ⟨g, od', none⟩) (es'.drop kd) → L3E w (w9.setCell ⟨w.heap.size + 1, 1, none⟩ (.slice (some ⟨g3, 0, none⟩) (js.length + 1) cp3)) b a code cap pv ps k g RJ (.slice (some ⟨g, od', none⟩) (es'.length - kd) (cq - kd)) from fun od' hea => by
                          refine ⟨d + kd, od', cq - kd, js ++ [⟨⟨(kd : Int), nm, es'.take kd⟩, some ⟨eb, 0, none⟩, ec⟩], .slice (some ⟨g3, 0, none⟩) (js.length + 1) cp3, es'.drop kd, cx, by rw [List.length_drop], ?_⟩
                          exact { sum := by simp; omega
                                  room := by simp; omega
                                  few := by simp; omega
                                  at' := by omega
                                  ea := hea
                                  gb := hgb
                                  gl := hg9
                                  nw := HN9.out.set1 _
                                  pr := HPR9.out
                                  ty := by
                                    obtain ⟨cs, fr, h⟩ := HTY5.out
                                    exact ⟨cs, fr, by rw [HGE9.out]; exact h⟩
                                  jr := HJR9.out
                                  run := by
                                    rw [List.map_append]
                                    have := HJN2.out
                                    rw [HJT.out] at this
                                    exact this })
                        refine ⟨?_, by omega⟩
                        first
                          | exact HFIN.out (od + kd * 2) (ends_drop (ends_block HEA5.out HGE9.out) kd)
                          | (have hz : cq - kd = 0 := by omega
                             have := HFIN.out od (fun i hi => by simp at hi; omega)
                             rw [hz] at this
                             exact this)
                    · have HJUNK := hide h3
                      have HJT := hide (show jtDraw code js.length es' cw = ⟨(kd : Int), ⟨#[]⟩, es'.take kd⟩ by rw [HJD.out, if_neg (by omega)])
                      have hq3 : decide ((3 : Int) ≤ (kd : Int)) = false := by rw [decide_eq_false_iff_not]; omega
                      go_wp2_with (first
                        | (at_builtin; (refine wpList_append_lies _ rfl _ _ _ rfl (w.heap.size + 2) 53 iJ _ 3 48 Try.underlying24 HIJ.out HZJ0.out HZJ1.out HZJ2.out rfl (by omega) (.slice ja js.length jc) js.length (jtCells js) rfl (HJR6.out.own.alloc _) ⟨wr.heap.size, 0, none⟩ 1 1 [.int .i64 (kd : Int), .string ⟨#[]⟩, .slice (some ⟨eb, 0, none⟩) kd ec] rfl rfl (news_at rfl) (by simp [Value.oneCell']) (by omega) hml3 (by omega) (by simp; omega) _ rfl ?_); intro g3 cp3 w9 hown3 hgrow3 _ _; have HLT3 := hide (fun g h => (HJR6.out.own.lt g h).1); have HN9 := hide ((HNW6.out.later ((Below.refl _ _).alloc (Nat.le_refl _) _)).grown hgrow3 HLT3.out); have p1 := HN9.out.n1; have pf1 := HN9.out.nf1; have hp1l := cell_lt p1))
                      all_goals
                        have HGE9 := hide (show (w9.setCell ⟨w.heap.size + 1, 1, none⟩ (.slice (some ⟨g3, 0, none⟩) (js.length + 1) cp3)).heap[g]? = W5.heap[g]? from
                          (Below.heap_setCell _ _ _ _ (by show g ≠ w.heap.size + 1; omega)).trans ((hgrow3.block g (by simp; omega) (HJR6.out.other HTY6.out)).trans ((((Below.refl wr.heap.size wr).alloc (Nat.le_refl _) _).block g (by omega)).trans HGE6.out)))
                        have HJR9 := hide ((JR.add (t := ⟨⟨(kd : Int), ⟨#[]⟩, es'.take kd⟩, some ⟨eb, 0, none⟩, ec⟩) (HJR6.out.later ((Below.refl wr.heap.size wr).alloc (Nat.le_refl _) _)) hgrow3 (by
                          have e1 : (es'.take kd).length = kd := by simp; omega
                          dsimp only
                          rw [e1]
                          exact hown3) (by
                          obtain ⟨cs, fr, h⟩ := HEI6.out
                          exact ⟨eb, cs, fr, rfl, by omega, by rw [((Below.refl wr.heap.size wr).alloc (Nat.le_refl _) _).block eb heb2]; exact h, HEE6.out.later ((Below.refl wr.heap.size wr).alloc (Nat.le_refl _) _)⟩)).setBelow (B := w.heap.size + 1) (o := 1) (by omega) (.slice (some ⟨g3, 0, none⟩) (js.length + 1) cp3))
                        have HPR9 := hide (ownsRow_setCell_below (owns_kept (HPR6.out.alloc _) (HJR6.out.own.alloc _) (by decide) hgrow3) (a := (⟨w.heap.size + 1, 1, none⟩ : Addr)) (by show w.heap.size + 1 < w.heap.size + 2; omega) (.slice (some ⟨g3, 0, none⟩) (js.length + 1) cp3))
                        have hg9 : g < (w9.setCell ⟨w.heap.size + 1, 1, none⟩ (.slice (some ⟨g3, 0, none⟩) (js.length + 1) cp3)).heap.size := by
                          have := hgrow3.size
                          simp at this ⊢
                          omega
                        have HFIN := hide (show ∀ od', EndsAt (w9.setCell ⟨w.heap.size + 1, 1, none⟩ (.slice (some ⟨g3, 0, none⟩) (js.length + 1) cp3)) (some ⟨g, od', none⟩) (es'.drop kd) → L3E w (w9.setCell ⟨w.heap.size + 1, 1, none⟩ (.slice (some ⟨g3, 0, none⟩) (js.length + 1) cp3)) b a code cap pv ps k g RJ (.slice (some ⟨g, od', none⟩) (es'.length - kd) (cq - kd)) from fun od' hea => by
                          refine ⟨d + kd, od', cq - kd, js ++ [⟨⟨(kd : Int), ⟨#[]⟩, es'.take kd⟩, some ⟨eb, 0, none⟩, ec⟩], .slice (some ⟨g3, 0, none⟩) (js.length + 1) cp3, es'.drop kd, cx, by rw [List.length_drop], ?_⟩
                          exact { sum := by simp; omega
                                  room := by simp; omega
                                  few := by simp; omega
                                  at' := by omega
                                  ea := hea
                                  gb := hgb
                                  gl := hg9
                                  nw := HN9.out.set1 _
                                  pr := HPR9.out
                                  ty := by
                                    obtain ⟨cs, fr, h⟩ := HTY5.out
                                    exact ⟨cs, fr, by rw [HGE9.out]; exact h⟩
                                  jr := HJR9.out
                                  run := by
                                    rw [List.map_append]
                                    have := HJN2.out
                                    rw [HJT.out] at this
                                    exact this })
                        refine ⟨?_, by omega⟩
                        first
                          | exact HFIN.out (od + kd * 2) (ends_drop (ends_block HEA5.out HGE9.out) kd)
                          | (have hz : cq - kd = 0 := by omega
                             have := HFIN.out od (fun i hi => by simp at hi; omega)
                             rw [hz] at this
                             exact this)
            · have hz0 : es'.length = 0 := by omega
              have he0i : decide ((0 : Int) < (es'.length : Int)) = false := by rw [decide_eq_false_iff_not]; omega
              have he0n : decide (0 < es'.length) = false := by rw [decide_eq_false_iff_not]; omega
              have HNP := hide (show netP code c = ⟨ps, js.map (·.jt)⟩ by
                have hr := HJN.out
                rw [hz0] at hr
                have hr' : js.map (·.jt) = RJ := hr
                have e1 := HRE.out
                have hK : (1 + pickV code 9 c1).toNat = k := by have := HKK.out; have := HK9.out; omega
                unfold netP
                simp only [HSM.out, HC1.out, HC2.out, hK, HPT.out.1, HPT.out.2, HR.out]
                rw [← e1, hr', ← HRJ.out, HELN.out])
              have HPK := hide (show ps.length = k by rw [← HPT.out.2]; exact pcsTo_len code small c2 k)
              obtain ⟨pa, pcap, hpv, _⟩ := pcs_at_of (by rw [HPK.out]; exact HPR.out)
              obtain ⟨ja, jcap, hjv, _⟩ := jts_at_of HJR.out
              rw [HPK.out] at hpv
              subst hpv
              rw [List.length_map] at hjv
              subst hjv
              have r0 := HNW.out.r0
              have r1 := HNW.out.r1
              have rf0 := HNW.out.rf0
              have rf1 := HNW.out.rf1
              have n0 := HNW.out.n0
              have n1 := HNW.out.n1
              have hw9 : Mid b (b + 1) w ((wr.setCell ⟨w.heap.size, 0, none⟩ (.slice pa k pcap)).setCell ⟨w.heap.size, 1, none⟩ (.slice ja js.length jcap)) := (HNW.out.mid.setNew (Nat.le_refl _) (.slice pa k pcap)).setNew (Nat.le_refl _) (.slice ja js.length jcap)
              have HPR9 := hide (ownsRow_setCell_below (ownsRow_setCell_below HPR.out (a := (⟨w.heap.size, 0, none⟩ : Addr)) (by show w.heap.size < w.heap.size + 2; omega) (.slice pa k pcap)) (a := (⟨w.heap.size, 1, none⟩ : Addr)) (by show w.heap.size < w.heap.size + 2; omega) (.slice ja js.length jcap))
              have HJR9 := hide ((HJR.out.setBelow (B := w.heap.size) (o := 0) (by omega) (.slice pa k pcap)).setBelow (B := w.heap.size) (o := 1) (by omega) (.slice ja js.length jcap))
              go_wp2_with fail
              refine bodyPost_ret (v := .agg #[.slice pa k pcap, .slice ja js.length jcap]) (by simp [results, Try.results18, go_sem, r0, r1]) rfl ?_
              have hpr := HPR9.out
              have hin := netIn_of (w := w) (by omega) (by rw [HPK.out]; exact hpr) HJR9.out
              have hbw := HNW.out.bw
              refine ⟨pa, ja, pcap, jcap, cw, ?_, by rw [HNP.out]; exact hin, hw9, by omega, (HNW.out.cur.setFar (by omega) _).setFar (by omega) _⟩
              rw [HNP.out]
              dsimp only
              rw [HPK.out, List.length_map]
theorem net_any (b : Nat) (a : Option Addr) (cap : Nat) (code : List Int) (c : Cu) (w : World) (hB : Bys code) (hat : c.at' ≤ 1000) (hn : code.length ≤ 1048576) (ho : OffB a code.length b) (hc : CurAt w b a code.length cap c) (hx : BytesAt w a code) :
    Calls Try.prog 18 #[.pointer (some ⟨b, 0, none⟩)] w fun e w' => NetPost code c b w e w' := by
  refine (net_cur b a cap code c w hB hat hn ho hc hx).mono ?_
  rintro e w' ⟨pa, ja, pcap, jcap, _, h1, h2, h3, _⟩
  exact ⟨pa, ja, pcap, jcap, h1, h2, h3⟩
end Go.Proofs.Yteapmddadieohaa
