/- The spoiler. Own work. -/
import Derived.Test.YtcodpnkfpmjleaaGreatDoorMxBC
import Derived.Deep.RegionHeld3
import Derived.Deep.RegionLaw
import Derived.Deep.RegionWith
import Derived.Deep.CutRange
import Derived.Deep.DeepCutAuto
import Derived.Test.YtcodpnkfpmjleaaGreatDoorSoC0
import Derived.Test.YtcodpnkfpmjleaaGreatDoorSoC1
import Derived.Test.YtcodpnkfpmjleaaGreatDoorSoC2
import Derived.Test.YtcodpnkfpmjleaaGreatDoorSoC3
import Derived.Test.YtcodpnkfpmjleaaGreatDoorSoC4
import Derived.Test.YtcodpnkfpmjleaaGreatDoorSoC5
namespace Go.Proofs.YtcodpnkfpmjleaaGreatDoor
open Go.RowKit
set_option maxHeartbeats 40000000
set_option maxRecDepth 100000

theorem spoil_q9 (b : Nat) (a pa0 ja0 : Option Addr) (cap pcap0 jcap0 u : Nat) (code : List Int) (c : Cu) (N : Nt) (w : World) (hB : Bys code) (hat : c.at' ≤ 100000) (hn : code.length ≤ 1048576) (ho : OffB a code.length b) (hsm : Sm N u) (hu : u ≤ 2) (hqv : pickV code 10 c = 9) (hc : CurAt w b a code.length cap c) (hx : BytesAt w a code) (hp : PcsAt w pa0 N.pcs) (hj : JtsAt w ja0 N.jts) :
    Calls Tryz.prog 38 #[.pointer (some ⟨b, 0, none⟩), .agg #[.slice pa0 N.pcs.length pcap0, .slice ja0 N.jts.length jcap0]] w fun e w' => SpoilPost b a code.length cap (u + 1) c w e w' := by
  have HB := hide hB
  have HQV := hide (show pickV code (10 : Nat) c = ((9 : Nat) : Int) from hqv)
  have HX := hide hx
  have HO := hide ho
  have hbw := cell_lt hc.c0
  have hA : Below w.heap.size w ((w.alloc (.cells #[.slice pa0 N.pcs.length pcap0, .slice ja0 N.jts.length jcap0] 26)).alloc (.cells #[.slice none 0 0, .slice none 0 0] 26)) := ((Below.refl _ _).alloc (Nat.le_refl _) _).alloc (by simp) _
  have HS0 := hide (sb_new (pa := pa0) (ja := ja0) (np := N.pcs.length) (nj := N.jts.length) (pcap := pcap0) (jcap := jcap0) hc)
  have HP0 := hide (hp.later hA)
  have HJ0 := hide (hj.later hA)
  have hz0 : ((w.alloc (.cells #[.slice pa0 N.pcs.length pcap0, .slice ja0 N.jts.length jcap0] 26)).alloc (.cells #[.slice none 0 0, .slice none 0 0] 26)).heap.size = w.heap.size + 2 := by simp
  have hpl : N.pcs.length ≤ 300 := by have := hsm.pcs; omega
  have hjl : N.jts.length ≤ 300 := by have := hsm.jts; omega
  have HJE := hide (show ∀ j ∈ N.jts, j.ends.length ≤ 1000 from fun j hj => by have := (hsm.jn j hj).2; omega)
  have hplu := hsm.pcs
  have hjlu := hsm.jts
  have HSM := hide hsm.up
  have HJ00 := hide (fun j hj => (hsm.jn j hj).2)
  clear hqv hB hx ho hc hp hj hA hsm
  go_enter Tryz.func38, Tryz.ntmps38
  have n0 := HS0.out.n0
  have n1 := HS0.out.n1
  go_wp2_with fail
  generalize (w.alloc (.cells #[.slice pa0 N.pcs.length pcap0, .slice ja0 N.jts.length jcap0] 26)).alloc (.cells #[.slice none 0 0, .slice none 0 0] 26) = w0 at *
  refine (l5copy_z pa0 ja0 N pcap0 jcap0 _ (by omega) (by omega) HJE.out HP0.out HJ0.out).mono ?_
  rintro e w1 ⟨pa, ja, pcap, jcap, js, hmap, rfl, hPR, hKZ, hb1⟩
  have hS1 := HS0.out.later hb1
  have n0 := hS1.n0
  have n1 := hS1.n1
  have nf0 := hS1.nf 0
  have nf1 := hS1.nf 1
  have HS2 := hide ((hS1.set0 (.slice pa N.pcs.length pcap)).set1 (.slice ja N.jts.length jcap))
  have HP2 := hide (ownsRow_setCell_below (ownsRow_setCell_below (owns_mono hPR (base' := w.heap.size + 2) (by omega)) (a := (⟨w.heap.size, 0, none⟩ : Addr)) (by show w.heap.size < w.heap.size + 2; omega) (.slice pa N.pcs.length pcap)) (a := (⟨w.heap.size, 1, none⟩ : Addr)) (by show w.heap.size < w.heap.size + 2; omega) (.slice ja N.jts.length jcap))
  have HK2 := hide (((hKZ.mono (base' := w.heap.size + 2) (by omega)).setBelow (B := w.heap.size) (o := 0) (by omega) (.slice pa N.pcs.length pcap)).setBelow (B := w.heap.size) (o := 1) (by omega) (.slice ja N.jts.length jcap))
  obtain ⟨ps, rfl⟩ : ∃ ps, N = ⟨ps, js.map (·.jt)⟩ := ⟨N.pcs, by rw [hmap]⟩
  dsimp only at *
  rw [List.length_map] at *
  have HJN0 := hide (show ∀ t ∈ js, t.jt.ends.length ≤ 18 + u from fun t ht => HJ00.out t.jt (List.mem_map.2 ⟨t, ht, rfl⟩))
  clear hPR hKZ hb1 hS1 hmap HS0 HP0 HJ0 HJE HJ00
  go_wp2_with fail
  generalize (w1.setCell ⟨w.heap.size, 0, none⟩ (.slice pa ps.length pcap)).setCell ⟨w.heap.size, 1, none⟩ (.slice ja js.length jcap) = w2 at *
  clear n0 n1 nf0 nf1
  refine (sb_pickV 10 9 HB.out (by omega) hn HO.out HX.out (by omega) (by omega) HQV.out HS2.out).mono ?_
  rintro e w3 ⟨c3, rfl, hat3, hS3, hm3⟩
  have HS := hide hS3
  have HP := hide (owns_mid HP2.out hm3 (by omega))
  have HK := hide (HK2.out.mid hm3 (by omega))
  have hz3 : w.heap.size + 2 ≤ w3.heap.size := by have := cell_lt hS3.r0; omega
  clear hS3 hm3 HS2 HP2 HK2 hz0
  obtain ⟨p0, hp0⟩ : ∃ p0, ps.length = p0 := ⟨_, rfl⟩
  obtain ⟨j0, hj0⟩ : ∃ j0, js.length = j0 := ⟨_, rfl⟩
  obtain ⟨iJ, hiJ, zJ0, zJ1, zJ2⟩ := infos info_Joint
  have HIJ := hide hiJ
  have HZJ0 := hide zJ0
  have HZJ1 := hide zJ1
  have HZJ2 := hide zJ2
  clear hiJ zJ0 zJ1 zJ2
  obtain ⟨iP, hiP, zP0, zP1, zP2⟩ := infos info_Piece
  have HIP := hide hiP
  have HZP0 := hide zP0
  have HZP1 := hide zP1
  have HZP2 := hide zP2
  clear hiP zP0 zP1 zP2
  have HS9 := HS
  have HP9 := HP
  have HK9 := HK
  have HSM9 := HSM
  go_wp2_with fail
  go_loopw [7] (fun _ wr => ∃ (pa ja : Option Addr) (pcap jcap : Nat) (ps : List Pc) (js : List Jr) (c9 : Cu), (p0 ≤ ps.length ∧ (ps.length ≤ p0 ∨ ps.length ≤ 101) ∧ js.length + p0 = j0 + ps.length ∧ c9.at' + 2 * p0 ≤ c.at' + 2 + 2 * ps.length) ∧ Hid (SB w wr b a code.length cap c9 w.heap.size (w.heap.size + 1) (.slice pa ps.length pcap) (.slice ja js.length jcap)) ∧ Hid (wr.ownsRow (w.heap.size + 2) 63 4 (.slice pa ps.length pcap) ps.length (pcCells ps)) ∧ Hid (KZ wr (w.heap.size + 2) (.slice ja js.length jcap) js) ∧ Hid (Sm ⟨ps, js.map (·.jt)⟩ (u + 1))) (fun _ wr => match wr.cell? ⟨w.heap.size, 0, none⟩ with | some (.slice _ n _) => 101 - n | _ => 0)
  case atStart => exact ⟨pa, ja, pcap, jcap, ps, js, c3, by omega, HS9, HP9, HK9, HSM9⟩
  case round =>
    clear HS HP HK HS9 HP9 HK9 HSM HSM9 HJN0
    obtain ⟨pa, ja, pcap, jcap, ps, js, c9, ⟨hb1, hb2, hb3, hb4⟩, HS, HP, HK, HSM⟩ := hrel
    rename World => w9
    have hz9 : w.heap.size + 2 ≤ w9.heap.size := by have := cell_lt HS.out.r0; omega
    have hn9 := HS.out.n0
    have HN9 := hide hn9
    go_upto_region 3 with fail
    go_cut [18] from 12 to 18 (fun s18 wx => ∃ (bt : Bool) (c4 : Cu), s18 = .bool bt ∧ (bt = true → ps.length ≤ 100) ∧ c4.at' ≤ c9.at' + 2 ∧ Hid (SB w wx b a code.length cap c4 w.heap.size (w.heap.size + 1) (.slice pa ps.length pcap) (.slice ja js.length jcap)) ∧ Hid (wx.ownsRow (w.heap.size + 2) 63 4 (.slice pa ps.length pcap) ps.length (pcCells ps)) ∧ Hid (KZ wx (w.heap.size + 2) (.slice ja js.length jcap) js))
    case first =>
      have HS6 := hide (HS.out.later ((Below.refl _ _).drew))
      have HP6 := hide (owns_later' HP.out ((Below.refl _ _).drew))
      have HK6 := hide (HK.out.later ((Below.refl _ _).drew))
      have n6 := HS6.out.n0
      go_region_with (first
        | (go_at_call 31; refine (sb_pick 2 HB.out (by omega) hn HO.out HX.out (by omega) (by omega) HS6.out).mono ?_; rintro e wQ ⟨k, c4, hk, rfl, hat4, hS7, hm7⟩; have HS7 := hide hS7; have HP7 := hide (owns_mid HP6.out hm7 (by omega)); have HK7 := hide (HK6.out.mid hm7 (by omega)); have n7 := HS7.out.n0; have hwk : IntKind.i64.wrap (100 + (k : Int)) = 100 + (k : Int) := by (rw [IntKind.wrap_i64]; omega)))
      all_goals
        go_simp
        go_wp2_with fail
        go_meet
        exact ⟨_, c4, rfl, fun h => by simp at h; omega, by omega, HS7, HP7, HK7⟩
    case rest =>
      clear HS HP HK hn9
      obtain ⟨bt, c4, rfl, hbt, hat4, HS, HP, HK⟩ := hcut
      rename World => w4
      have hz4 : w.heap.size + 2 ≤ w4.heap.size := by have := cell_lt HS.out.r0; omega
      have n0 := HS.out.n0
      have n1 := HS.out.n1
      have nf0 := HS.out.nf 0
      have nf1 := HS.out.nf 1
      have r0 := HS.out.r0
      have r1 := HS.out.r1
      have rf0 := HS.out.rf 0
      have rf1 := HS.out.rf 1
      cases bt with
      | false =>
        go_wp2_with fail
        refine bodyPost_ret (v := .agg #[.slice pa ps.length pcap, .slice ja js.length jcap]) (by simp [results, Tryz.results38, go_sem, r0, r1]) rfl ?_
        exact spoil_endL (c := c) (ps := ps) (js := js) HS.out rfl HP.out rfl HK.out (Nat.le_refl _) HSM.out (by omega)
      | true =>
        have hp100 := hbt rfl
        have hml8 : ps.length + 1 ≤ maxLen := by unfold maxLen; omega
        go_upto_region 5 with fail
        go_cut [7] from 22 to 30 (fun s7 wx => s7 = .int .i64 ps.length ∧ ∃ (g5 cp5 : Nat), Hid (SB w wx b a code.length cap c4 w.heap.size (w.heap.size + 1) (.slice (some ⟨g5, 0, none⟩) (ps.length + 1) cp5) (.slice ja js.length jcap)) ∧ Hid (wx.ownsRow (w.heap.size + 2) 63 4 (.slice (some ⟨g5, 0, none⟩) (ps.length + 1) cp5) (ps.length + 1) (pcCells (ps ++ [⟨nameP (ps.length : Int), 5, 9, 9⟩]))) ∧ Hid (KZ wx (w.heap.size + 2) (.slice ja js.length jcap) js))
        case first =>
          have HS6 := hide (HS.out.later ((Below.refl _ _).drew))
          have HP6 := hide (owns_later' HP.out ((Below.refl _ _).drew))
          have HK6 := hide (HK.out.later ((Below.refl _ _).drew))
          have n6 := HS6.out.n0
          go_region_law (first
            | (refine step_append_lies _ (by rfl) _ _ _ (by rfl) (w.heap.size + 2) 63 iP _ 4 40 Tryz.underlying23 HIP.out HZP0.out HZP1.out HZP2.out rfl (by omega) (.slice pa ps.length pcap) ps.length (pcCells ps) (by rfl) (HPN.out.alloc _) ⟨wN.heap.size, 0, none⟩ 1 1 [.string (nameP (ps.length : Int)), .int .i64 5, .int .i64 9, .int .i64 9] (by rfl) (by rfl) (World.news_of_block (heap_alloc_new _ _)) (by simp [Value.oneCell']) (by omega) hml8 (by omega) (by have := cell_lt HSN.out.r0; simp; omega) _ rfl ?_; intro g2 cp2 w7 hown2 hgrow2 _ _; have HLT := hide (fun g' h => (HPN.out.lt g' h).1); have HS7 := hide ((HSN.out.later ((Below.refl _ _).alloc (Nat.le_refl _) _)).grown hgrow2 (fun g' h => by have := HLT.out g' h; omega)); have HK7 := hide ((HKN.out.later ((Below.refl _ _).alloc (Nat.le_refl _) _)).keptPc (HPN.out.alloc _) hgrow2); have HO7 := hide hown2; have n7 := HS7.out.n0; have nf7 := HS7.out.nf 0)
            | (go_simp; go_at_call 55; refine (name_any _ (ps.length : Int) _ (by omega) (by omega)).mono ?_; rintro e wN ⟨rfl, hbN⟩; have HSN := hide (HS6.out.later hbN); have HPN := hide (owns_later' HP6.out hbN); have HKN := hide (HK6.out.later hbN); have nN := HSN.out.n0; have nA := cell_later' ((Below.refl wN.heap.size wN).alloc (Nat.le_refl _) (.cells #[.string (nameP (ps.length : Int)), .int .i64 5, .int .i64 9, .int .i64 9] 63)) nN))
          all_goals
            go_simp
            go_wp2_with fail
            go_meet
            refine ⟨rfl, g2, cp2, HS7.out.set0 _, ?_, HK7.out.setBelow (by omega) _⟩
            show World.ownsRow _ _ _ _ _ _ _
            rw [pcCells_add]
            exact ownsRow_setCell_below HO7.out (a := (⟨w.heap.size, 0, none⟩ : Addr)) (by show w.heap.size < w.heap.size + 2; omega) _
        case rest =>
          clear HS HP HK n0 n1 nf0 nf1 r0 r1 rf0 rf1
          obtain ⟨rfl, g5, cp5, HS, HP, HK⟩ := hcut
          rename World => w8
          have hz8 : w.heap.size + 2 ≤ w8.heap.size := by have := cell_lt HS.out.r0; omega
          have HSM5 := hide (HSM.out.add (p := ⟨nameP (ps.length : Int), 5, 9, 9⟩) (Nat.le_trans (nameP_size (by omega)) (by decide)) (by omega))
          obtain ⟨ps0, hps0⟩ : ∃ ps0, ps = ps0 := ⟨_, rfl⟩
          subst hps0
          have n0 := HS.out.n0
          have n1 := HS.out.n1
          have nf0 := HS.out.nf 0
          have nf1 := HS.out.nf 1
          have r0 := HS.out.r0
          have r1 := HS.out.r1
          have rf0 := HS.out.rf 0
          have rf1 := HS.out.rf 1
          have hA1 := (Below.refl w8.heap.size w8).alloc (Nat.le_refl _) (.cells #[.int .i64 ps.length, .int .i64 0, .int .i64 ps.length, .int .i64 1] 75)
          have hA2 := (Below.refl (w8.alloc (.cells #[.int .i64 ps.length, .int .i64 0, .int .i64 ps.length, .int .i64 1] 75)).heap.size (w8.alloc (.cells #[.int .i64 ps.length, .int .i64 0, .int .i64 ps.length, .int .i64 1] 75))).alloc (Nat.le_refl _) (.cells #[.int .i64 2, .string ⟨#[]⟩, .slice (some ⟨w8.heap.size, 0, none⟩) 2 2] 69)
          have HKL := hide HK.out.low
          have HSt := hide ((HS.out.later hA1).later hA2)
          have HPt := hide (owns_later' (owns_later' HP.out hA1) hA2)
          have HKt := hide ((HK.out.later hA1).later hA2)
          have HTE := hide (owns_later' (owns_new (w := w8) (base := w.heap.size + 2) (n := 2) (T := 75) (size := 2) (cs := #[.int .i64 ps.length, .int .i64 0, .int .i64 ps.length, .int .i64 1]) (by omega) rfl (by unfold maxLen; omega)) hA2)
          have hml : js.length + 1 ≤ maxLen := by unfold maxLen; omega
          have HLT := hide (fun g' (h : (Value.slice ja js.length jcap).ownBlock = some g') => (HKt.out.own.lt g' h).1)
          clear hA1 hA2
          go_wp2_with (first
            | (at_builtin; (refine wpList_append_lies _ rfl _ _ _ rfl (w.heap.size + 2) 69 iJ _ 3 48 Tryz.underlying24 HIJ.out HZJ0.out HZJ1.out HZJ2.out rfl (by omega) (.slice ja js.length jcap) js.length (jtCells js) rfl HKt.out.own ⟨_, 0, none⟩ 1 1 [.int .i64 2, .string ⟨#[]⟩, .slice (some ⟨w8.heap.size, 0, none⟩) 2 2] rfl rfl (news_at (by simp)) (by simp [Value.oneCell']) (by omega) hml (by omega) (by simp; omega) _ rfl ?_); intro g2 cp2 w7 hown2 hgrow2 _ _; have HS7 := hide (HSt.out.grown hgrow2 (fun g' h => by have := HLT.out g' h; omega)); have HP7 := hide (owns_kept HPt.out HKt.out.own (by decide) hgrow2); have HK7 := hide (KZ.add (t := ⟨⟨2, ⟨#[]⟩, [((ps.length : Int), 0), ((ps.length : Int), 1)]⟩, some ⟨w8.heap.size, 0, none⟩, 2⟩) HKt.out hgrow2 hown2 HTE.out HKL.out (fun x hx => by have e := Option.some.inj hx; rw [← e]; exact Nat.le_refl _)); have p1 := HS7.out.n1; have pf1 := HS7.out.nf 1; have HS8 := hide (HS7.out.set1 (.slice (some ⟨g2, 0, none⟩) (js.length + 1) cp2)); have HP8 := hide (ownsRow_setCell_below HP7.out (a := (⟨w.heap.size, 1, none⟩ : Addr)) (by show w.heap.size < w.heap.size + 2; omega) (.slice (some ⟨g2, 0, none⟩) (js.length + 1) cp2)); have HK8 := hide (HK7.out.setBelow (B := w.heap.size) (o := 1) (by omega) (.slice (some ⟨g2, 0, none⟩) (js.length + 1) cp2)); have q0 := HS8.out.n0; have q1 := HS8.out.n1; have r0 := HS8.out.r0; have r1 := HS8.out.r1; have rf0 := HS8.out.rf 0; have rf1 := HS8.out.rf 1; clear hown2 hgrow2))
          all_goals
            have HSM8 := hide (HSM5.out.addJ (t := ⟨⟨2, ⟨#[]⟩, [((ps.length : Int), 0), ((ps.length : Int), 1)]⟩, some ⟨w8.heap.size, 0, none⟩, 2⟩) ⟨by show (ByteArray.mk #[]).size ≤ 30; decide, by simp; omega⟩ (by omega))
            go_wp2_with fail
            go_roundw
            case rel =>
              refine ⟨some ⟨g5, 0, none⟩, some ⟨g2, 0, none⟩, cp5, cp2, ps ++ [⟨nameP (ps.length : Int), 5, 9, 9⟩], js ++ [⟨⟨2, ⟨#[]⟩, [((ps.length : Int), 0), ((ps.length : Int), 1)]⟩, some ⟨w8.heap.size, 0, none⟩, 2⟩], c4, ?_, ?_, ?_, ?_, HSM8⟩
              · simp only [List.length_append, List.length_cons, List.length_nil]
                omega
              · show SB _ _ _ _ _ _ _ _ _ _ _
                rw [List.length_append, List.length_append]
                exact HS8.out
              · show World.ownsRow _ _ _ _ _ _ _
                rw [List.length_append]
                exact HP8.out
              · show KZ _ _ _ _
                rw [List.length_append]
                exact HK8.out
            case measure =>
              have h8 := HS8.out.n0
              have h9 := HN9.out
              simp only [h8, h9]
              omega
end Go.Proofs.YtcodpnkfpmjleaaGreatDoor

/- The spoiler. Own work. -/
namespace Go.Proofs.YtcodpnkfpmjleaaGreatDoor
open Go.RowKit

theorem spoil_any (b : Nat) (a pa0 ja0 : Option Addr) (cap pcap0 jcap0 u : Nat) (code : List Int) (c : Cu) (N : Nt) (w : World) (hB : Bys code) (hat : c.at' ≤ 100000) (hn : code.length ≤ 1048576) (ho : OffB a code.length b) (hsm : Sm N u) (hu : u ≤ 2) (hc : CurAt w b a code.length cap c) (hx : BytesAt w a code) (hp : PcsAt w pa0 N.pcs) (hj : JtsAt w ja0 N.jts) :
    Calls Tryz.prog 38 #[.pointer (some ⟨b, 0, none⟩), .agg #[.slice pa0 N.pcs.length pcap0, .slice ja0 N.jts.length jcap0]] w fun e w' => SpoilPost b a code.length cap (u + 1) c w e w' := by
  have hb := pickV_bd (code := code) (n := 10) (by omega) c
  have h : pickV code 10 c = 0 ∨ pickV code 10 c = 1 ∨ pickV code 10 c = 2 ∨ pickV code 10 c = 3 ∨ pickV code 10 c = 4 ∨ pickV code 10 c = 5 ∨ pickV code 10 c = 6 ∨ pickV code 10 c = 7 ∨ pickV code 10 c = 8 ∨ pickV code 10 c = 9 := by omega
  rcases h with h | h | h | h | h | h | h | h | h | h
  · exact spoil_q0 b a pa0 ja0 cap pcap0 jcap0 u code c N w hB hat hn ho hsm hu h hc hx hp hj
  · exact spoil_q1 b a pa0 ja0 cap pcap0 jcap0 u code c N w hB hat hn ho hsm hu h hc hx hp hj
  · exact spoil_q2 b a pa0 ja0 cap pcap0 jcap0 u code c N w hB hat hn ho hsm hu h hc hx hp hj
  · exact spoil_q3 b a pa0 ja0 cap pcap0 jcap0 u code c N w hB hat hn ho hsm hu h hc hx hp hj
  · exact spoil_q4 b a pa0 ja0 cap pcap0 jcap0 u code c N w hB hat hn ho hsm hu h hc hx hp hj
  · exact spoil_q5 b a pa0 ja0 cap pcap0 jcap0 u code c N w hB hat hn ho hsm hu h hc hx hp hj
  · exact spoil_q6 b a pa0 ja0 cap pcap0 jcap0 u code c N w hB hat hn ho hsm hu h hc hx hp hj
  · exact spoil_q7 b a pa0 ja0 cap pcap0 jcap0 u code c N w hB hat hn ho hsm hu h hc hx hp hj
  · exact spoil_q8 b a pa0 ja0 cap pcap0 jcap0 u code c N w hB hat hn ho hsm hu h hc hx hp hj
  · exact spoil_q9 b a pa0 ja0 cap pcap0 jcap0 u code c N w hB hat hn ho hsm hu h hc hx hp hj
end Go.Proofs.YtcodpnkfpmjleaaGreatDoor

/- A track that is drawn and maybe spoilt. Own work. -/
namespace Go.Proofs.YtcodpnkfpmjleaaGreatDoor
open Go.RowKit
set_option maxHeartbeats 4000000
set_option maxRecDepth 100000

/-- A track lies at and above a place. -/
def NetB (base : Nat) (w' : World) (pa ja : Option Addr) (N : Nt) : Prop :=
  ∀ w2 : World, (∀ k, base ≤ k → k < w'.heap.size → w2.heap[k]? = w'.heap[k]?) → PcsAt w2 pa N.pcs ∧ JtsAt w2 ja N.jts
section
variable {base base' : Nat} {w w2 : World} {pa ja : Option Addr} {N : Nt}
theorem NetIn.b (h : NetIn w w2 pa ja N) (hb : base ≤ w.heap.size) : NetB base w2 pa ja N := fun w3 hk => h w3 fun k h1 h2 => hk k (by omega) h2
theorem NetB.pcs (h : NetB base w pa ja N) : PcsAt w pa N.pcs := (h w fun _ _ _ => rfl).1
theorem NetB.jts (h : NetB base w pa ja N) : JtsAt w ja N.jts := (h w fun _ _ _ => rfl).2
theorem NetB.later (h : NetB base w pa ja N) (hb : Below w.heap.size w w2) : NetB base w2 pa ja N := fun w3 hk => h w3 fun k h1 h2 => (hk k h1 (Nat.lt_of_lt_of_le h2 hb.size)).trans (hb.block k h2)
theorem NetB.mid {B C : Nat} (h : NetB base w pa ja N) (hm : Mid B C w w2) (hC : C ≤ base) : NetB base w2 pa ja N := fun w3 hk => h w3 fun k h1 h2 => (hk k h1 (Nat.lt_of_lt_of_le h2 hm.size)).trans (hm.block k h2 (.inr (by omega)))
theorem NetB.set (h : NetB base w pa ja N) {g o : Nat} (hg : g < base) (v : Value) : NetB base (w.setCell ⟨g, o, none⟩ v) pa ja N := fun w3 hk => h w3 fun k h1 h2 => (hk k h1 (by simpa [World.setCell] using h2)).trans (heap_setCell_other w ⟨g, o, none⟩ k v (by show k ≠ g; omega))
theorem NetB.mono (h : NetB base w pa ja N) (hb : base' ≤ base) : NetB base' w pa ja N := fun w3 hk => h w3 fun k h1 h2 => hk k (by omega) h2
end
/-- What a drawer of tracks answers. -/
def DrawnN (b : Nat) (a : Option Addr) (n cap u : Nat) (w : World) (e : Ending) (w' : World) : Prop :=
  ∃ (pa ja : Option Addr) (pcap jcap : Nat) (N : Nt) (c' : Cu), e = .returned (.agg #[.slice pa N.pcs.length pcap, .slice ja N.jts.length jcap]) ∧ NetB w.heap.size w' pa ja N ∧ Sm N u ∧ Mid b (b + 1) w w' ∧ c'.at' ≤ 10000 ∧ CurAt w' b a n cap c'

theorem l5net_any (b : Nat) (a : Option Addr) (cap : Nat) (code : List Int) (c : Cu) (w : World) (hB : Bys code) (hat : c.at' ≤ 1000) (hn : code.length ≤ 1048576) (ho : OffB a code.length b) (hc : CurAt w b a code.length cap c) (hx : BytesAt w a code) :
    Calls Tryz.prog 30 #[.pointer (some ⟨b, 0, none⟩)] w fun e w' => DrawnN b a code.length cap 1 w e w' := by
  have HB := hide hB
  have HO := hide ho
  have hbw := cell_lt hc.c0
  have hA := (Below.refl w.heap.size w).alloc (Nat.le_refl _) (.cells #[.slice none 0 0, .slice none 0 0] 26)
  have HC0 := hide (hc.later hA)
  have HX := hide hx
  have HM0 := hide (Mid.of_below (B := b) (C := b + 1) hA)
  have r0 := new_cell w #[.slice none 0 0, .slice none 0 0] 26 0 _ rfl
  have r1 := new_cell w #[.slice none 0 0, .slice none 0 0] 26 1 _ rfl
  have rf0 : (w.alloc (.cells #[.slice none 0 0, .slice none 0 0] 26)).frozen? ⟨w.heap.size, 0, none⟩ = false := by simp [go_sem]
  have rf1 : (w.alloc (.cells #[.slice none 0 0, .slice none 0 0] 26)).frozen? ⟨w.heap.size, 1, none⟩ = false := by simp [go_sem]
  have hz0 : (w.alloc (.cells #[.slice none 0 0, .slice none 0 0] 26)).heap.size = w.heap.size + 1 := by simp
  have HNBD := hide (netP_bd code c).sm
  clear hB ho hc hx hA
  go_enter Tryz.func30, Tryz.ntmps30
  go_wp2_with fail
  generalize w.alloc (.cells #[.slice none 0 0, .slice none 0 0] 26) = w0 at *
  refine (net_cur b a cap code c _ HB.out hat hn HO.out HC0.out (HX.out.mid HM0.out HO.out)).mono ?_
  rintro e w1 ⟨pa, ja, pcap, jcap, c1, rfl, hIN, hm1, hat1, hc1⟩
  generalize netP code c = N at *
  have hs1 := hm1.size
  have hA2 := (Below.refl w1.heap.size w1).alloc (Nat.le_refl _) (.cells #[.slice pa N.pcs.length pcap, .slice ja N.jts.length jcap] 26)
  have HM2 := hide ((HM0.out.trans hm1).trans (Mid.of_below hA2))
  have HC2 := hide (hc1.later hA2)
  have HN2 := hide ((NetIn.b (base := w.heap.size + 1) hIN (by omega)).later hA2)
  have rf0 := frozen_later hA2 (hm1.cell (.inr (by omega)) r0) (hm1.frozen (.inr (by omega)) r0 rf0)
  have rf1 := frozen_later hA2 (hm1.cell (.inr (by omega)) r1) (hm1.frozen (.inr (by omega)) r1 rf1)
  have r0 := cell_later' hA2 (hm1.cell (.inr (by omega)) r0)
  have r1 := cell_later' hA2 (hm1.cell (.inr (by omega)) r1)
  have n0 := new_cell w1 #[.slice pa N.pcs.length pcap, .slice ja N.jts.length jcap] 26 0 _ rfl
  have n1 := new_cell w1 #[.slice pa N.pcs.length pcap, .slice ja N.jts.length jcap] 26 1 _ rfl
  have nf0 : (w1.alloc (.cells #[.slice pa N.pcs.length pcap, .slice ja N.jts.length jcap] 26)).frozen? ⟨w1.heap.size, 0, none⟩ = false := by simp [go_sem]
  have nf1 : (w1.alloc (.cells #[.slice pa N.pcs.length pcap, .slice ja N.jts.length jcap] 26)).frozen? ⟨w1.heap.size, 1, none⟩ = false := by simp [go_sem]
  have hz2 : (w1.alloc (.cells #[.slice pa N.pcs.length pcap, .slice ja N.jts.length jcap] 26)).heap.size = w1.heap.size + 1 := by simp
  clear hIN hm1 hc1 hA2 HM0 HC0
  go_wp2_with fail
  generalize w1.alloc (.cells #[.slice pa N.pcs.length pcap, .slice ja N.jts.length jcap] 26) = w2 at *
  have hwn : w.heap.size < w1.heap.size := by omega
  generalize w1.heap.size = bn at *
  refine (pick_any b a cap code c1 12 _ HB.out (by omega) hn HO.out (by omega) (by omega) HC2.out (HX.out.mid HM2.out HO.out)).mono ?_
  rintro e w3 ⟨rfl, hc3, hm3⟩
  have hpa := pickC_at code 12 c1
  have HC3 := hide hc3
  have HM3 := hide (HM2.out.trans hm3)
  have HN3 := hide (HN2.out.mid hm3 (by omega))
  have rf0 := hm3.frozen (.inr (by omega)) r0 rf0
  have rf1 := hm3.frozen (.inr (by omega)) r1 rf1
  have r0 := hm3.cell (.inr (by omega)) r0
  have r1 := hm3.cell (.inr (by omega)) r1
  have nf0 := hm3.frozen (.inr (by omega)) n0 nf0
  have nf1 := hm3.frozen (.inr (by omega)) n1 nf1
  have n0 := hm3.cell (.inr (by omega)) n0
  have n1 := hm3.cell (.inr (by omega)) n1
  have hs3 := hm3.size
  clear hc3 hm3 HC2 HM2 HN2
  generalize pickV code 12 c1 = q at *
  generalize pickC code 12 c1 = c3 at *
  by_cases hq : q = 0
  · subst hq
    go_wp2_with fail
    refine (spoil_any b a pa ja cap pcap jcap 0 code c3 N _ HB.out (by omega) hn HO.out HNBD.out (by omega) HC3.out (HX.out.mid HM3.out HO.out) HN3.out.pcs HN3.out.jts).mono ?_
    rintro e w4 ⟨qa, ka, qcap, kcap, M, c4, rfl, hIN, hSm, hm4, hat4, hc4⟩
    have HC4 := hide hc4
    have HM4 := hide (HM3.out.trans hm4)
    have HN4 := hide (NetIn.b (base := bn + 1) hIN (by omega))
    have HSM := hide hSm
    have rf0 := hm4.frozen (.inr (by omega)) r0 rf0
    have rf1 := hm4.frozen (.inr (by omega)) r1 rf1
    have r0 := hm4.cell (.inr (by omega)) r0
    have r1 := hm4.cell (.inr (by omega)) r1
    have nf0 := hm4.frozen (.inr (by omega)) n0 nf0
    have nf1 := hm4.frozen (.inr (by omega)) n1 nf1
    have n0 := hm4.cell (.inr (by omega)) n0
    have n1 := hm4.cell (.inr (by omega)) n1
    have hlt1 := cell_lt n0
    have hlt0 := cell_lt r0
    clear hc4 hm4 hIN hSm
    go_wp2_with fail
    refine bodyPost_ret (v := .agg #[.slice qa M.pcs.length qcap, .slice ka M.jts.length kcap]) (by simp [results, Tryz.results30, go_sem, r0, r1]) rfl ?_
    have hle : w.heap.size ≤ w.heap.size := Nat.le_refl _
    have hle2 : w.heap.size ≤ bn := by omega
    exact ⟨qa, ka, qcap, kcap, M, c4, rfl, ((((HN4.out.set (by omega) _).set (by omega) _).set (by omega) _).set (by omega) _).mono (by omega), HSM.out, (((HM4.out.setNew hle2 _).setNew hle2 _).setNew hle _).setNew hle _, by omega, (((HC4.out.setFar (by omega) _).setFar (by omega) _).setFar (by omega) _).setFar (by omega) _⟩
  · have gq : (q == 0) = false := by rw [beq_eq_false_iff_ne]; exact hq
    go_wp2_with fail
    refine bodyPost_ret (v := .agg #[.slice pa N.pcs.length pcap, .slice ja N.jts.length jcap]) (by simp [results, Tryz.results30, go_sem, r0, r1]) rfl ?_
    have hle : w.heap.size ≤ w.heap.size := Nat.le_refl _
    exact ⟨pa, ja, pcap, jcap, N, c3, rfl, ((HN3.out.set (by omega) _).set (by omega) _).mono (by omega), HNBD.out.up, (HM3.out.setNew hle _).setNew hle _, by omega, (HC3.out.setFar (by omega) _).setFar (by omega) _⟩
theorem Sm.le {N : Nt} {u v : Nat} (h : Sm N u) (huv : u ≤ v) : Sm N v :=
  ⟨by have := h.pcs; omega, by have := h.jts; omega, h.pn, fun j hj => by have := h.jn j hj; omega⟩
/-- The reader, the result's box, the track's box and the track, while DrawNetOk runs. -/
structure NkB (w wr : World) (a : Option Addr) (n cap : Nat) (c : Cu) (bn : Nat) (pa ja : Option Addr) (pcap jcap : Nat) (N : Nt) : Prop where
  cur : CurAt wr (w.heap.size + 1) a n cap c
  n0 : wr.cell? ⟨bn, 0, none⟩ = some (.slice pa N.pcs.length pcap)
  n1 : wr.cell? ⟨bn, 1, none⟩ = some (.slice ja N.jts.length jcap)
  nf : ∀ o, wr.frozen? ⟨bn, o, none⟩ = false
  r0 : wr.cell? ⟨w.heap.size, 0, none⟩ = some (.slice none 0 0)
  r1 : wr.cell? ⟨w.heap.size, 1, none⟩ = some (.slice none 0 0)
  rf : ∀ o, wr.frozen? ⟨w.heap.size, o, none⟩ = false
  net : NetB (w.heap.size + 2) wr pa ja N
  bel : Below w.heap.size w wr
  nb : w.heap.size + 2 ≤ bn
section
variable {w wr w2 : World} {a : Option Addr} {n cap bn pcap jcap qcap kcap : Nat} {c c' : Cu} {pa ja qa ka : Option Addr} {N M : Nt}
theorem NkB.blocks (h : NkB w wr a n cap c bn pa ja pcap jcap N) (hc : CurAt w2 (w.heap.size + 1) a n cap c') (hm : Mid (w.heap.size + 1) (w.heap.size + 2) wr w2) : NkB w w2 a n cap c' bn pa ja pcap jcap N := by
  have h1 := h.nb
  have hbn := hm.block bn (cell_lt h.n0) (.inr h1)
  have hbr := hm.block w.heap.size (cell_lt h.r0) (.inl (by omega))
  have h5 : w.heap.size + 1 ≤ wr.heap.size := cell_lt h.r0
  exact ⟨hc, (World.cell?_of_block (a := ⟨bn, 0, none⟩) hbn).trans h.n0, (World.cell?_of_block (a := ⟨bn, 1, none⟩) hbn).trans h.n1, fun o => (World.frozen?_of_block (a := ⟨bn, o, none⟩) hbn).trans (h.nf o), (World.cell?_of_block (a := ⟨w.heap.size, 0, none⟩) hbr).trans h.r0, (World.cell?_of_block (a := ⟨w.heap.size, 1, none⟩) hbr).trans h.r1, fun o => (World.frozen?_of_block (a := ⟨w.heap.size, o, none⟩) hbr).trans (h.rf o), h.net.mid hm (Nat.le_refl _), h.bel.trans ((hm.below h5).mono (by omega)), h1⟩
theorem NkB.put (h : NkB w wr a n cap c bn pa ja pcap jcap N) (hn : NetB (bn + 1) wr qa ka M) : NkB w ((wr.setCell ⟨bn, 0, none⟩ (.slice qa M.pcs.length qcap)).setCell ⟨bn, 1, none⟩ (.slice ka M.jts.length kcap)) a n cap c bn qa ka qcap kcap M := by
  have h1 := h.nb
  have n0 := h.n0
  have n1 := h.n1
  have hle : w.heap.size ≤ bn := by omega
  have hne : ∀ (o : Nat) (v : Value) (W : World), (W.setCell ⟨bn, o, none⟩ v).heap[w.heap.size]? = W.heap[w.heap.size]? := fun o v W => heap_setCell_other W ⟨bn, o, none⟩ w.heap.size v (by show w.heap.size ≠ bn; omega)
  have hbr := (hne 1 (.slice ka M.jts.length kcap) (wr.setCell ⟨bn, 0, none⟩ (.slice qa M.pcs.length qcap))).trans (hne 0 (.slice qa M.pcs.length qcap) wr)
  exact ⟨(h.cur.setFar (by omega) _).setFar (by omega) _, by simp [go_sem, n0], by simp [go_sem, n1], fun o => by rw [World.frozen?_setCell, World.frozen?_setCell]; exact h.nf o, (World.cell?_of_block (a := ⟨w.heap.size, 0, none⟩) hbr).trans h.r0, (World.cell?_of_block (a := ⟨w.heap.size, 1, none⟩) hbr).trans h.r1, fun o => by rw [World.frozen?_setCell, World.frozen?_setCell]; exact h.rf o, ((hn.set (by omega) _).set (by omega) _).mono (by omega), (h.bel.setCell hle _).setCell hle _, h1⟩
end
theorem drawNetOk_any (a : Option Addr) (cap : Nat) (code : List Int) (w : World) (hB : Bys code) (hn : code.length ≤ 1048576) (hx : BytesAt w a code) :
    Calls Tryz.prog 13 #[.slice a code.length cap] w fun e w' =>
    ∃ (pa ja : Option Addr) (pcap jcap : Nat) (N : Nt), e = .returned (.agg #[.slice pa N.pcs.length pcap, .slice ja N.jts.length jcap]) ∧ PcsAt w' pa N.pcs ∧ JtsAt w' ja N.jts ∧ Sm N 2 ∧ Below w.heap.size w w' := by
  have HB := hide hB
  have HX := hide hx
  have hbA : Below w.heap.size w ((w.alloc (.cells #[.slice none 0 0, .slice none 0 0] 26)).alloc (.cells #[.slice a code.length cap, .int .i64 0, .int .u64 0] 57)) := ((Below.refl _ _).alloc (Nat.le_refl _) _).alloc (by simp) _
  have HCA : Hid (CurAt ((w.alloc (.cells #[.slice none 0 0, .slice none 0 0] 26)).alloc (.cells #[.slice a code.length cap, .int .i64 0, .int .u64 0] 57)) (w.heap.size + 1) a code.length cap ⟨0, 0⟩) := by
    have := cur_new (w := w.alloc (.cells #[.slice none 0 0, .slice none 0 0] 26)) (a := a) (n := code.length) (cap := cap)
    rw [World.size_alloc] at this
    exact this
  have HO := hide (off_of hx (B := w.heap.size + 1) (by omega))
  have r0 : ((w.alloc (.cells #[.slice none 0 0, .slice none 0 0] 26)).alloc (.cells #[.slice a code.length cap, .int .i64 0, .int .u64 0] 57)).cell? ⟨w.heap.size, 0, none⟩ = some (.slice none 0 0) := by simp [go_sem]
  have r1 : ((w.alloc (.cells #[.slice none 0 0, .slice none 0 0] 26)).alloc (.cells #[.slice a code.length cap, .int .i64 0, .int .u64 0] 57)).cell? ⟨w.heap.size, 1, none⟩ = some (.slice none 0 0) := by simp [go_sem]
  have HRF := hide (show ∀ o, ((w.alloc (.cells #[.slice none 0 0, .slice none 0 0] 26)).alloc (.cells #[.slice a code.length cap, .int .i64 0, .int .u64 0] 57)).frozen? ⟨w.heap.size, o, none⟩ = false from fun o => by simp [go_sem])
  have hzA : ((w.alloc (.cells #[.slice none 0 0, .slice none 0 0] 26)).alloc (.cells #[.slice a code.length cap, .int .i64 0, .int .u64 0] 57)).heap.size = w.heap.size + 2 := by simp
  have HNBD := hide (netP_bd code ⟨0, 0⟩).sm
  clear hB hx
  go_enter Tryz.func13, Tryz.ntmps13
  go_wp2_with fail
  generalize ((w.alloc (.cells #[.slice none 0 0, .slice none 0 0] 26)).alloc (.cells #[.slice a code.length cap, .int .i64 0, .int .u64 0] 57)) = w1 at *
  refine (net_cur (w.heap.size + 1) a cap code ⟨0, 0⟩ _ HB.out (Nat.zero_le _) hn HO.out HCA.out (HX.out.later hbA)).mono ?_
  rintro e w2 ⟨pa, ja, pcap, jcap, c2, rfl, hIN, hm, hat2, hc2⟩
  generalize netP code ⟨0, 0⟩ = N at *
  have hz2 := hm.size
  have hA2 := (Below.refl w2.heap.size w2).alloc (Nat.le_refl _) (.cells #[.slice pa N.pcs.length pcap, .slice ja N.jts.length jcap] 26)
  have hbr := (hA2.block w.heap.size (by omega)).trans (hm.block w.heap.size (by omega) (.inl (by omega)))
  have HD := hide (show NkB w (w2.alloc (.cells #[.slice pa N.pcs.length pcap, .slice ja N.jts.length jcap] 26)) a code.length cap c2 w2.heap.size pa ja pcap jcap N from
    ⟨hc2.later hA2, new_cell w2 #[.slice pa N.pcs.length pcap, .slice ja N.jts.length jcap] 26 0 _ rfl, new_cell w2 #[.slice pa N.pcs.length pcap, .slice ja N.jts.length jcap] 26 1 _ rfl, fun o => by simp [go_sem], (World.cell?_of_block (a := ⟨w.heap.size, 0, none⟩) hbr).trans r0, (World.cell?_of_block (a := ⟨w.heap.size, 1, none⟩) hbr).trans r1, fun o => (World.frozen?_of_block (a := ⟨w.heap.size, o, none⟩) hbr).trans (HRF.out o), (NetIn.b (base := w.heap.size + 2) hIN (by omega)).later hA2, (hbA.trans ((hm.below (by omega)).mono (by omega))).trans (hA2.mono (by omega)), by omega⟩)
  have hbn : w.heap.size + 2 ≤ w2.heap.size := by omega
  clear hIN hm hc2 hA2 hbr hbA HCA r0 r1 HRF hz2 hzA
  go_wp2_with fail
  generalize w2.alloc (.cells #[.slice pa N.pcs.length pcap, .slice ja N.jts.length jcap] 26) = w3 at *
  generalize w2.heap.size = bn at *
  refine (pick_any (w.heap.size + 1) a cap code c2 3 _ HB.out (by omega) hn HO.out (by omega) (by omega) HD.out.cur (HX.out.later HD.out.bel)).mono ?_
  rintro e w4 ⟨rfl, hc4, hm4⟩
  have hpa := pickC_at code 3 c2
  have hp3 := pickV_bd (code := code) (n := 3) (by omega) c2
  obtain ⟨q, hq⟩ := Int.eq_ofNat_of_zero_le hp3.1
  rw [hq] at hp3 ⊢
  have HD4 := hide (HD.out.blocks hc4 hm4)
  clear hc4 hm4 HD hq
  generalize pickC code 3 c2 = c4 at *
  go_wp2_with fail
  go_loopw [5] (fun q5 wr => ∃ (k u : Nat) (pa ja : Option Addr) (pcap jcap : Nat) (N : Nt) (c : Cu), q5 = .int .i64 k ∧ (u + k ≤ 2 ∧ c.at' + 1000 * k ≤ 9000) ∧ Hid (Sm N u) ∧ Hid (NkB w wr a code.length cap c bn pa ja pcap jcap N)) (fun q5 _ => (intOf q5).toNat)
  case atStart => exact ⟨q, 0, pa, ja, pcap, jcap, N, c4, rfl, by omega, HNBD, HD4⟩
  case round =>
    clear HD4 HNBD hpa hp3
    obtain ⟨k, u, pa, ja, pcap, jcap, N, c5, rfl, ⟨huk, hat5⟩, HSM, HD⟩ := hrel
    rename World => w5
    have n0 := HD.out.n0
    have n1 := HD.out.n1
    have nf0 := HD.out.nf 0
    have nf1 := HD.out.nf 1
    have r0 := HD.out.r0
    have r1 := HD.out.r1
    have rf0 := HD.out.rf 0
    have rf1 := HD.out.rf 1
    by_cases hk : k = 0
    · subst hk
      go_wp2_with fail
      refine bodyPost_ret (v := .agg #[.slice pa N.pcs.length pcap, .slice ja N.jts.length jcap]) (by simp [results, Tryz.results13, go_sem, r0, r1]) rfl ?_
      have hle : w.heap.size ≤ w.heap.size := Nat.le_refl _
      have hnn := (HD.out.net.set (g := w.heap.size) (o := 0) (by omega) (.slice pa N.pcs.length pcap)).set (g := w.heap.size) (o := 1) (by omega) (.slice ja N.jts.length jcap)
      exact ⟨pa, ja, pcap, jcap, N, rfl, hnn.pcs, hnn.jts, HSM.out.le (by omega), (HD.out.bel.setCell hle _).setCell hle _⟩
    · have hki : (0 : Int) < (k : Int) := by omega
      have hkn : 0 < k := by omega
      have hwk : IntKind.i64.wrap ((k : Int) - 1) = ((k - 1 : Nat) : Int) := by rw [IntKind.wrap_i64]; omega
      go_wp2_with fail
      refine (spoil_any (w.heap.size + 1) a pa ja cap pcap jcap u code c5 N _ HB.out (by omega) hn HO.out HSM.out (by omega) HD.out.cur (HX.out.later HD.out.bel) HD.out.net.pcs HD.out.net.jts).mono ?_
      rintro e w6 ⟨qa, ka, qcap, kcap, M, c6, rfl, hIN, hSm, hm6, hat6, hc6⟩
      have HSM6 := hide hSm
      have HD6 := hide (HD.out.blocks hc6 hm6)
      have HN6 := hide (NetIn.b (base := bn + 1) hIN (cell_lt HD.out.n0))
      have HD7 := hide (HD6.out.put (qcap := qcap) (kcap := kcap) HN6.out)
      have n0 := HD6.out.n0
      have n1 := HD6.out.n1
      have nf0 := HD6.out.nf 0
      have nf1 := HD6.out.nf 1
      clear hIN hSm hm6 hc6 HD HSM
      go_wp2_with fail
      go_roundw
      case rel => exact ⟨k - 1, u + 1, qa, ka, qcap, kcap, M, c6, by go_num, by omega, HSM6, HD7⟩
      case measure => simp [intOf]; omega
end Go.Proofs.YtcodpnkfpmjleaaGreatDoor
