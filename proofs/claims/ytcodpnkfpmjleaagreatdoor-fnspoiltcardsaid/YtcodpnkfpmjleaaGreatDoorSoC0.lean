/- The spoiler. Own work. -/
import Derived.Test.YtcodpnkfpmjleaaGreatDoorMxBC
import Derived.Deep.RegionHeld3
import Derived.Deep.RegionLaw
import Derived.Deep.RegionWith
import Derived.Deep.CutRange
import Derived.Deep.DeepCutAuto
namespace Go.Proofs.YtcodpnkfpmjleaaGreatDoor
open Go.RowKit
set_option maxHeartbeats 40000000
set_option maxRecDepth 100000

theorem spoil_q0 (b : Nat) (a pa0 ja0 : Option Addr) (cap pcap0 jcap0 u : Nat) (code : List Int) (c : Cu) (N : Nt) (w : World) (hB : Bys code) (hat : c.at' ≤ 100000) (hn : code.length ≤ 1048576) (ho : OffB a code.length b) (hsm : Sm N u) (hu : u ≤ 2) (hqv : pickV code 10 c = 0) (hc : CurAt w b a code.length cap c) (hx : BytesAt w a code) (hp : PcsAt w pa0 N.pcs) (hj : JtsAt w ja0 N.jts) :
    Calls Tryz.prog 38 #[.pointer (some ⟨b, 0, none⟩), .agg #[.slice pa0 N.pcs.length pcap0, .slice ja0 N.jts.length jcap0]] w fun e w' => SpoilPost b a code.length cap (u + 1) c w e w' := by
  have HB := hide hB
  have HQV := hide (show pickV code (10 : Nat) c = ((0 : Nat) : Int) from hqv)
  have HX := hide hx
  have HO := hide ho
  have hbw := cell_lt hc.c0
  have hA : Below w.heap.size w ((w.alloc (.cells #[.slice pa0 N.pcs.length pcap0, .slice ja0 N.jts.length jcap0] 26)).alloc (.cells #[.slice none 0 0, .slice none 0 0] 26)) := ((Below.refl _ _).alloc (Nat.le_refl _) _).alloc (by simp) _
  have HS0 := hide (sb_new (pa := pa0) (ja := ja0) (np := N.pcs.length) (nj := N.jts.length) (pcap := pcap0) (jcap := jcap0) hc)
  have HP0 := hide (hp.later hA)
  have HJ0 := hide (hj.later hA)
  have hz0 : ((w.alloc (.cells #[.slice pa0 N.pcs.length pcap0, .slice ja0 N.jts.length jcap0] 26)).alloc (.cells #[.slice none 0 0, .slice none 0 0] 26)).heap.size = w.heap.size + 2 := by simp
  have hpl : N.pcs.length ≤ 300 := by have := hsm.pcs; omega
  have hjl : N.jts.length ≤ 300 := by have := hsm.jts; omega
  have HJE := hide (show ∀ j ∈ N.jts, j.ends.length ≤ 1000 from fun j hj => by have := (hsm.jn j hj).2; omega)
  have hplu := hsm.pcs
  have hjlu := hsm.jts
  have HSM := hide hsm.up
  have HJ00 := hide (fun j hj => (hsm.jn j hj).2)
  clear hqv hB hx ho hc hp hj hA hsm
  go_enter Tryz.func38, Tryz.ntmps38
  have n0 := HS0.out.n0
  have n1 := HS0.out.n1
  go_wp2_with fail
  generalize (w.alloc (.cells #[.slice pa0 N.pcs.length pcap0, .slice ja0 N.jts.length jcap0] 26)).alloc (.cells #[.slice none 0 0, .slice none 0 0] 26) = w0 at *
  refine (l5copy_z pa0 ja0 N pcap0 jcap0 _ (by omega) (by omega) HJE.out HP0.out HJ0.out).mono ?_
  rintro e w1 ⟨pa, ja, pcap, jcap, js, hmap, rfl, hPR, hKZ, hb1⟩
  have hS1 := HS0.out.later hb1
  have n0 := hS1.n0
  have n1 := hS1.n1
  have nf0 := hS1.nf 0
  have nf1 := hS1.nf 1
  have HS2 := hide ((hS1.set0 (.slice pa N.pcs.length pcap)).set1 (.slice ja N.jts.length jcap))
  have HP2 := hide (ownsRow_setCell_below (ownsRow_setCell_below (owns_mono hPR (base' := w.heap.size + 2) (by omega)) (a := (⟨w.heap.size, 0, none⟩ : Addr)) (by show w.heap.size < w.heap.size + 2; omega) (.slice pa N.pcs.length pcap)) (a := (⟨w.heap.size, 1, none⟩ : Addr)) (by show w.heap.size < w.heap.size + 2; omega) (.slice ja N.jts.length jcap))
  have HK2 := hide (((hKZ.mono (base' := w.heap.size + 2) (by omega)).setBelow (B := w.heap.size) (o := 0) (by omega) (.slice pa N.pcs.length pcap)).setBelow (B := w.heap.size) (o := 1) (by omega) (.slice ja N.jts.length jcap))
  obtain ⟨ps, rfl⟩ : ∃ ps, N = ⟨ps, js.map (·.jt)⟩ := ⟨N.pcs, by rw [hmap]⟩
  dsimp only at *
  rw [List.length_map] at *
  have HJN0 := hide (show ∀ t ∈ js, t.jt.ends.length ≤ 18 + u from fun t ht => HJ00.out t.jt (List.mem_map.2 ⟨t, ht, rfl⟩))
  clear hPR hKZ hb1 hS1 hmap HS0 HP0 HJ0 HJE HJ00
  go_wp2_with fail
  generalize (w1.setCell ⟨w.heap.size, 0, none⟩ (.slice pa ps.length pcap)).setCell ⟨w.heap.size, 1, none⟩ (.slice ja js.length jcap) = w2 at *
  clear n0 n1 nf0 nf1
  refine (sb_pickV 10 0 HB.out (by omega) hn HO.out HX.out (by omega) (by omega) HQV.out HS2.out).mono ?_
  rintro e w3 ⟨c3, rfl, hat3, hS3, hm3⟩
  have HS := hide hS3
  have HP := hide (owns_mid HP2.out hm3 (by omega))
  have HK := hide (HK2.out.mid hm3 (by omega))
  have hz3 : w.heap.size + 2 ≤ w3.heap.size := by have := cell_lt hS3.r0; omega
  clear hS3 hm3 HS2 HP2 HK2 hz0
  by_cases hp0 : ps.length = 0
  · have g0 : decide ((ps.length : Int) > 0) = false := decide_eq_false (by omega)
    have g0n : decide (0 < ps.length) = false := decide_eq_false (by omega)
    clear hp0
    have n0 := HS.out.n0
    have n1 := HS.out.n1
    have nf0 := HS.out.nf 0
    have nf1 := HS.out.nf 1
    have r0 := HS.out.r0
    have r1 := HS.out.r1
    have rf0 := HS.out.rf 0
    have rf1 := HS.out.rf 1
    go_wp2_with fail
    refine bodyPost_ret (v := .agg #[.slice pa ps.length pcap, .slice ja js.length jcap]) (by simp [results, Tryz.results38, go_sem, r0, r1]) rfl ?_
    exact spoil_endL (c := c) (ps := ps) (js := js) HS.out rfl HP.out rfl HK.out (Nat.le_refl _) HSM.out (by omega)
  · have g0 : decide ((ps.length : Int) > 0) = true := decide_eq_true (by omega)
    have g0n : decide (0 < ps.length) = true := decide_eq_true (by omega)
    have hp1 : 0 < ps.length := by omega
    obtain ⟨g, cp, hpv, hgb, hgl⟩ := HP.out.form (by omega)
    obtain ⟨rfl, rfl⟩ : pa = some ⟨g, 0, none⟩ ∧ pcap = cp := by simpa using hpv
    clear hpv
    have n0 := HS.out.n0
    have n1 := HS.out.n1
    have nf0 := HS.out.nf 0
    have nf1 := HS.out.nf 1
    have r0 := HS.out.r0
    have r1 := HS.out.r1
    have rf0 := HS.out.rf 0
    have rf1 := HS.out.rf 1
    go_upto_region 9 with fail
    go_cut [5] from 44 to 55 (fun s5 wx => ∃ (k : Nat) (c4 : Cu), k < ps.length ∧ s5 = .pointer (some ⟨g, k * 4, none⟩) ∧ c4.at' ≤ c.at' + 4 ∧ Hid (SB w wx b a code.length cap c4 w.heap.size (w.heap.size + 1) (.slice (some ⟨g, 0, none⟩) ps.length pcap) (.slice ja js.length jcap)) ∧ Hid (wx.ownsRow (w.heap.size + 2) 63 4 (.slice (some ⟨g, 0, none⟩) ps.length pcap) ps.length (pcCells ps)) ∧ Hid (KZ wx (w.heap.size + 2) (.slice ja js.length jcap) js))
    case first =>
      have HS6 := hide (HS.out.later ((Below.refl _ _).drew))
      have HP6 := hide (owns_later' HP.out ((Below.refl _ _).drew))
      have HK6 := hide (HK.out.later ((Below.refl _ _).drew))
      have n6 := HS6.out.n0
      go_region_with (first
        | (go_at_call 31; refine (sb_pick ps.length HB.out (by omega) hn HO.out HX.out (by omega) (by omega) HS6.out).mono ?_; rintro e wQ ⟨k, c4, hk, rfl, hat4, hS7, hm7⟩; have HS7 := hide hS7; have HP7 := hide (owns_mid HP6.out hm7 (by omega)); have HK7 := hide (HK6.out.mid hm7 (by omega)); have n7 := HS7.out.n0; have hki : (k : Int) < (ps.length : Int) := by omega))
      all_goals
        go_simp
        go_wp2_with fail
        go_meet
        refine ⟨k, c4, hk, ?_, by omega, HS7, HP7, HK7⟩
        first | rfl | (go_simp; done) | (simp [go_sem]; done) | (simp [go_sem, Nat.mul_comm]; done)
    case rest =>
      clear HS HP HK n0 n1 nf0 nf1 r0 r1 rf0 rf1
      obtain ⟨k, c4, hk, rfl, hat4, HS, HP, HK⟩ := hcut
      rename World => w4
      have hPN := HSM.out.pn
      have hz4 : w.heap.size + 2 ≤ w4.heap.size := by have := cell_lt HS.out.r0; omega
      go_wp2_with fail
      refine (sb_pick 4 HB.out (by omega) hn HO.out HX.out (by omega) (by omega) HS.out).mono ?_
      rintro e w5 ⟨q4, c5, hq4, rfl, hat5, hHS5, hm5⟩
      have HS5 := hide hHS5
      have HP5 := hide (owns_mid HP.out hm5 (by omega))
      have HK5 := hide (HK.out.mid hm5 (by omega))
      clear hHS5
      have hz5 : w.heap.size + 2 ≤ w5.heap.size := by have := cell_lt HS5.out.r0; omega
      clear hm5 HS HP HK
      obtain rfl | rfl | rfl | rfl : q4 = 0 ∨ q4 = 1 ∨ q4 = 2 ∨ q4 = 3 := by omega
      · have hA := (Below.refl w5.heap.size w5).alloc (Nat.le_refl _) (.cells #[.int .i64 0, .int .i64 (-1), .int .i64 10000000, .int .i64 10000001] 3)
        have HT := hide (fun (p : Nat) (hp : p < 4) => show ∃ x, (w5.alloc (.cells #[.int .i64 0, .int .i64 (-1), .int .i64 10000000, .int .i64 10000001] 3)).cell? ⟨w5.heap.size, p, none⟩ = some (.int .i64 x) by
          have h : p = 0 ∨ p = 1 ∨ p = 2 ∨ p = 3 := by omega
          rcases h with rfl | rfl | rfl | rfl
          all_goals exact ⟨_, new_cell w5 #[.int .i64 0, .int .i64 (-1), .int .i64 10000000, .int .i64 10000001] 3 _ _ rfl⟩)
        have HSt := hide (HS5.out.later hA)
        have HPt := hide (owns_later' HP5.out hA)
        have HKt := hide (HK5.out.later hA)
        clear hA HS5 HP5 HK5
        go_wp2_with fail
        generalize w5.alloc (.cells #[.int .i64 0, .int .i64 (-1), .int .i64 10000000, .int .i64 10000001] 3) = wt at *
        refine (sb_pick 4 HB.out (by omega) hn HO.out HX.out (by omega) (by omega) HSt.out).mono ?_
        rintro e w7 ⟨kk, c7, hkk, rfl, hat7, hHS7, hm7⟩
        have HS7 := hide hHS7
        have HP7 := hide (owns_mid HPt.out hm7 (by omega))
        have HK7 := hide (HKt.out.mid hm7 (by omega))
        clear hHS7
        obtain ⟨x, tx⟩ := HT.out kk hkk
        have tx := hm7.cell (.inr (by omega)) tx
        obtain ⟨d0, d1, d2, d3⟩ := pcCells_at ps k hk
        have e1 : w7.cell? ⟨g, k * 4 + 1, none⟩ = some (.int .i64 ps[k].len) := by rw [HP7.out.cellAt _ (by omega)]; exact d1
        have ef : w7.frozen? ⟨g, k * 4 + 1, none⟩ = false := HP7.out.frozenAt _
        have HP8 := hide (show (w7.setCell ⟨g, k * 4 + 1, none⟩ (.int .i64 x)).ownsRow (w.heap.size + 2) 63 4 (.slice (some ⟨g, 0, none⟩) ps.length pcap) ps.length (pcCells (ps.set k ⟨ps[k].name, x, ps[k].speed, ps[k].brake⟩)) by
          rw [← pcCells_set ps k hk 1 (by omega) ⟨ps[k].name, x, ps[k].speed, ps[k].brake⟩ (.int .i64 x) rfl]
          exact (HP7.out.stored _ _).1)
        have HK8 := hide (HK7.out.setPc (o := k * 4 + 1) HP7.out (.int .i64 x))
        have HS8 := hide (HS7.out.setHi (g := g) (o := k * 4 + 1) (by omega) (.int .i64 x))
        have HSM8 := hide (HSM.out.piece (k := k) (p := ⟨ps[k].name, x, ps[k].speed, ps[k].brake⟩) (hPN ps[k] (List.getElem_mem hk)))
        have hkki : (kk : Int) < 4 := by omega
        clear HT hm7 d0 d1 d2 d3
        have n0 := HS8.out.n0
        have n1 := HS8.out.n1
        have nf0 := HS8.out.nf 0
        have nf1 := HS8.out.nf 1
        have r0 := HS8.out.r0
        have r1 := HS8.out.r1
        have rf0 := HS8.out.rf 0
        have rf1 := HS8.out.rf 1
        go_wp2_with fail
        refine bodyPost_ret (v := .agg #[.slice (some ⟨g, 0, none⟩) ps.length pcap, .slice ja js.length jcap]) (by simp [results, Tryz.results38, go_sem, r0, r1]) rfl ?_
        exact spoil_endL (c := c) (ps := (ps.set k ⟨ps[k].name, x, ps[k].speed, ps[k].brake⟩)) (js := js) HS8.out List.length_set HP8.out rfl HK8.out (Nat.le_refl _) HSM8.out (by omega)
      · have hA := (Below.refl w5.heap.size w5).alloc (Nat.le_refl _) (.cells #[.int .i64 0, .int .i64 10000, .int .i64 10001] 3)
        have HT := hide (fun (p : Nat) (hp : p < 3) => show ∃ x, (w5.alloc (.cells #[.int .i64 0, .int .i64 10000, .int .i64 10001] 3)).cell? ⟨w5.heap.size, p, none⟩ = some (.int .i64 x) by
          have h : p = 0 ∨ p = 1 ∨ p = 2 := by omega
          rcases h with rfl | rfl | rfl
          all_goals exact ⟨_, new_cell w5 #[.int .i64 0, .int .i64 10000, .int .i64 10001] 3 _ _ rfl⟩)
        have HSt := hide (HS5.out.later hA)
        have HPt := hide (owns_later' HP5.out hA)
        have HKt := hide (HK5.out.later hA)
        clear hA HS5 HP5 HK5
        go_wp2_with fail
        generalize w5.alloc (.cells #[.int .i64 0, .int .i64 10000, .int .i64 10001] 3) = wt at *
        refine (sb_pick 3 HB.out (by omega) hn HO.out HX.out (by omega) (by omega) HSt.out).mono ?_
        rintro e w7 ⟨kk, c7, hkk, rfl, hat7, hHS7, hm7⟩
        have HS7 := hide hHS7
        have HP7 := hide (owns_mid HPt.out hm7 (by omega))
        have HK7 := hide (HKt.out.mid hm7 (by omega))
        clear hHS7
        obtain ⟨x, tx⟩ := HT.out kk hkk
        have tx := hm7.cell (.inr (by omega)) tx
        obtain ⟨d0, d1, d2, d3⟩ := pcCells_at ps k hk
        have e2 : w7.cell? ⟨g, k * 4 + 2, none⟩ = some (.int .i64 ps[k].speed) := by rw [HP7.out.cellAt _ (by omega)]; exact d2
        have ef : w7.frozen? ⟨g, k * 4 + 2, none⟩ = false := HP7.out.frozenAt _
        have HP8 := hide (show (w7.setCell ⟨g, k * 4 + 2, none⟩ (.int .i64 x)).ownsRow (w.heap.size + 2) 63 4 (.slice (some ⟨g, 0, none⟩) ps.length pcap) ps.length (pcCells (ps.set k ⟨ps[k].name, ps[k].len, x, ps[k].brake⟩)) by
          rw [← pcCells_set ps k hk 2 (by omega) ⟨ps[k].name, ps[k].len, x, ps[k].brake⟩ (.int .i64 x) rfl]
          exact (HP7.out.stored _ _).1)
        have HK8 := hide (HK7.out.setPc (o := k * 4 + 2) HP7.out (.int .i64 x))
        have HS8 := hide (HS7.out.setHi (g := g) (o := k * 4 + 2) (by omega) (.int .i64 x))
        have HSM8 := hide (HSM.out.piece (k := k) (p := ⟨ps[k].name, ps[k].len, x, ps[k].brake⟩) (hPN ps[k] (List.getElem_mem hk)))
        have hkki : (kk : Int) < 3 := by omega
        clear HT hm7 d0 d1 d2 d3
        have n0 := HS8.out.n0
        have n1 := HS8.out.n1
        have nf0 := HS8.out.nf 0
        have nf1 := HS8.out.nf 1
        have r0 := HS8.out.r0
        have r1 := HS8.out.r1
        have rf0 := HS8.out.rf 0
        have rf1 := HS8.out.rf 1
        go_wp2_with fail
        refine bodyPost_ret (v := .agg #[.slice (some ⟨g, 0, none⟩) ps.length pcap, .slice ja js.length jcap]) (by simp [results, Tryz.results38, go_sem, r0, r1]) rfl ?_
        exact spoil_endL (c := c) (ps := (ps.set k ⟨ps[k].name, ps[k].len, x, ps[k].brake⟩)) (js := js) HS8.out List.length_set HP8.out rfl HK8.out (Nat.le_refl _) HSM8.out (by omega)
      · have hA := (Below.refl w5.heap.size w5).alloc (Nat.le_refl _) (.cells #[.int .i64 0, .int .i64 1000, .int .i64 1001] 3)
        have HT := hide (fun (p : Nat) (hp : p < 3) => show ∃ x, (w5.alloc (.cells #[.int .i64 0, .int .i64 1000, .int .i64 1001] 3)).cell? ⟨w5.heap.size, p, none⟩ = some (.int .i64 x) by
          have h : p = 0 ∨ p = 1 ∨ p = 2 := by omega
          rcases h with rfl | rfl | rfl
          all_goals exact ⟨_, new_cell w5 #[.int .i64 0, .int .i64 1000, .int .i64 1001] 3 _ _ rfl⟩)
        have HSt := hide (HS5.out.later hA)
        have HPt := hide (owns_later' HP5.out hA)
        have HKt := hide (HK5.out.later hA)
        clear hA HS5 HP5 HK5
        go_wp2_with fail
        generalize w5.alloc (.cells #[.int .i64 0, .int .i64 1000, .int .i64 1001] 3) = wt at *
        refine (sb_pick 3 HB.out (by omega) hn HO.out HX.out (by omega) (by omega) HSt.out).mono ?_
        rintro e w7 ⟨kk, c7, hkk, rfl, hat7, hHS7, hm7⟩
        have HS7 := hide hHS7
        have HP7 := hide (owns_mid HPt.out hm7 (by omega))
        have HK7 := hide (HKt.out.mid hm7 (by omega))
        clear hHS7
        obtain ⟨x, tx⟩ := HT.out kk hkk
        have tx := hm7.cell (.inr (by omega)) tx
        obtain ⟨d0, d1, d2, d3⟩ := pcCells_at ps k hk
        have e3 : w7.cell? ⟨g, k * 4 + 3, none⟩ = some (.int .i64 ps[k].brake) := by rw [HP7.out.cellAt _ (by omega)]; exact d3
        have ef : w7.frozen? ⟨g, k * 4 + 3, none⟩ = false := HP7.out.frozenAt _
        have HP8 := hide (show (w7.setCell ⟨g, k * 4 + 3, none⟩ (.int .i64 x)).ownsRow (w.heap.size + 2) 63 4 (.slice (some ⟨g, 0, none⟩) ps.length pcap) ps.length (pcCells (ps.set k ⟨ps[k].name, ps[k].len, ps[k].speed, x⟩)) by
          rw [← pcCells_set ps k hk 3 (by omega) ⟨ps[k].name, ps[k].len, ps[k].speed, x⟩ (.int .i64 x) rfl]
          exact (HP7.out.stored _ _).1)
        have HK8 := hide (HK7.out.setPc (o := k * 4 + 3) HP7.out (.int .i64 x))
        have HS8 := hide (HS7.out.setHi (g := g) (o := k * 4 + 3) (by omega) (.int .i64 x))
        have HSM8 := hide (HSM.out.piece (k := k) (p := ⟨ps[k].name, ps[k].len, ps[k].speed, x⟩) (hPN ps[k] (List.getElem_mem hk)))
        have hkki : (kk : Int) < 3 := by omega
        clear HT hm7 d0 d1 d2 d3
        have n0 := HS8.out.n0
        have n1 := HS8.out.n1
        have nf0 := HS8.out.nf 0
        have nf1 := HS8.out.nf 1
        have r0 := HS8.out.r0
        have r1 := HS8.out.r1
        have rf0 := HS8.out.rf 0
        have rf1 := HS8.out.rf 1
        go_wp2_with fail
        refine bodyPost_ret (v := .agg #[.slice (some ⟨g, 0, none⟩) ps.length pcap, .slice ja js.length jcap]) (by simp [results, Tryz.results38, go_sem, r0, r1]) rfl ?_
        exact spoil_endL (c := c) (ps := (ps.set k ⟨ps[k].name, ps[k].len, ps[k].speed, x⟩)) (js := js) HS8.out List.length_set HP8.out rfl HK8.out (Nat.le_refl _) HSM8.out (by omega)
      · have hA := (Below.refl w5.heap.size w5).alloc (Nat.le_refl _) (.cells #[.string ⟨#[]⟩, .string ⟨#[65]⟩, .string ⟨#[97, 48]⟩, .string ⟨#[97, 32, 98]⟩, .string ⟨#[97, 98, 99, 100, 101, 102, 103, 104, 105, 106, 107, 108, 109, 110, 111, 112, 113, 114, 115, 116]⟩, .string ⟨#[97, 98, 99, 100, 101, 102, 103, 104, 105, 106, 107, 108, 109, 110, 111, 112, 113, 114, 115, 116, 117]⟩] 9)
        have HT := hide (fun (p : Nat) (hp : p < 6) => show ∃ x : ByteArray, x.size ≤ 30 ∧ (w5.alloc (.cells #[.string ⟨#[]⟩, .string ⟨#[65]⟩, .string ⟨#[97, 48]⟩, .string ⟨#[97, 32, 98]⟩, .string ⟨#[97, 98, 99, 100, 101, 102, 103, 104, 105, 106, 107, 108, 109, 110, 111, 112, 113, 114, 115, 116]⟩, .string ⟨#[97, 98, 99, 100, 101, 102, 103, 104, 105, 106, 107, 108, 109, 110, 111, 112, 113, 114, 115, 116, 117]⟩] 9)).cell? ⟨w5.heap.size, p, none⟩ = some (.string x) by
          have h : p = 0 ∨ p = 1 ∨ p = 2 ∨ p = 3 ∨ p = 4 ∨ p = 5 := by omega
          rcases h with rfl | rfl | rfl | rfl | rfl | rfl
          all_goals exact ⟨_, by decide, new_cell w5 #[.string ⟨#[]⟩, .string ⟨#[65]⟩, .string ⟨#[97, 48]⟩, .string ⟨#[97, 32, 98]⟩, .string ⟨#[97, 98, 99, 100, 101, 102, 103, 104, 105, 106, 107, 108, 109, 110, 111, 112, 113, 114, 115, 116]⟩, .string ⟨#[97, 98, 99, 100, 101, 102, 103, 104, 105, 106, 107, 108, 109, 110, 111, 112, 113, 114, 115, 116, 117]⟩] 9 _ _ rfl⟩)
        have HSt := hide (HS5.out.later hA)
        have HPt := hide (owns_later' HP5.out hA)
        have HKt := hide (HK5.out.later hA)
        clear hA HS5 HP5 HK5
        go_wp2_with fail
        generalize w5.alloc (.cells #[.string ⟨#[]⟩, .string ⟨#[65]⟩, .string ⟨#[97, 48]⟩, .string ⟨#[97, 32, 98]⟩, .string ⟨#[97, 98, 99, 100, 101, 102, 103, 104, 105, 106, 107, 108, 109, 110, 111, 112, 113, 114, 115, 116]⟩, .string ⟨#[97, 98, 99, 100, 101, 102, 103, 104, 105, 106, 107, 108, 109, 110, 111, 112, 113, 114, 115, 116, 117]⟩] 9) = wt at *
        refine (sb_pick 6 HB.out (by omega) hn HO.out HX.out (by omega) (by omega) HSt.out).mono ?_
        rintro e w7 ⟨kk, c7, hkk, rfl, hat7, hHS7, hm7⟩
        have HS7 := hide hHS7
        have HP7 := hide (owns_mid HPt.out hm7 (by omega))
        have HK7 := hide (HKt.out.mid hm7 (by omega))
        clear hHS7
        obtain ⟨x, hxs, tx⟩ := HT.out kk hkk
        have tx := hm7.cell (.inr (by omega)) tx
        obtain ⟨d0, d1, d2, d3⟩ := pcCells_at ps k hk
        have e0 : w7.cell? ⟨g, k * 4, none⟩ = some (.string ps[k].name) := by rw [HP7.out.cellAt _ (by omega)]; exact d0
        have ef : w7.frozen? ⟨g, k * 4, none⟩ = false := HP7.out.frozenAt _
        have HP8 := hide (show (w7.setCell ⟨g, k * 4, none⟩ (.string x)).ownsRow (w.heap.size + 2) 63 4 (.slice (some ⟨g, 0, none⟩) ps.length pcap) ps.length (pcCells (ps.set k ⟨x, ps[k].len, ps[k].speed, ps[k].brake⟩)) by
          rw [← pcCells_set ps k hk 0 (by omega) ⟨x, ps[k].len, ps[k].speed, ps[k].brake⟩ (.string x) rfl]
          exact (HP7.out.stored _ _).1)
        have HK8 := hide (HK7.out.setPc (o := k * 4) HP7.out (.string x))
        have HS8 := hide (HS7.out.setHi (g := g) (o := k * 4) (by omega) (.string x))
        have HSM8 := hide (HSM.out.piece (k := k) (p := ⟨x, ps[k].len, ps[k].speed, ps[k].brake⟩) hxs)
        have hkki : (kk : Int) < 6 := by omega
        clear HT hm7 d0 d1 d2 d3
        have n0 := HS8.out.n0
        have n1 := HS8.out.n1
        have nf0 := HS8.out.nf 0
        have nf1 := HS8.out.nf 1
        have r0 := HS8.out.r0
        have r1 := HS8.out.r1
        have rf0 := HS8.out.rf 0
        have rf1 := HS8.out.rf 1
        go_wp2_with fail
        refine bodyPost_ret (v := .agg #[.slice (some ⟨g, 0, none⟩) ps.length pcap, .slice ja js.length jcap]) (by simp [results, Tryz.results38, go_sem, r0, r1]) rfl ?_
        exact spoil_endL (c := c) (ps := (ps.set k ⟨x, ps[k].len, ps[k].speed, ps[k].brake⟩)) (js := js) HS8.out List.length_set HP8.out rfl HK8.out (Nat.le_refl _) HSM8.out (by omega)
end Go.Proofs.YtcodpnkfpmjleaaGreatDoor
