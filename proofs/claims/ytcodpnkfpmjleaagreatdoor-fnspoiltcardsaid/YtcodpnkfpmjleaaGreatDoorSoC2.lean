/- The spoiler. Own work. -/
import Derived.Test.YtcodpnkfpmjleaaGreatDoorMxBC
import Derived.Deep.RegionHeld3
import Derived.Deep.RegionLaw
import Derived.Deep.RegionWith
import Derived.Deep.CutRange
import Derived.Deep.DeepCutAuto
namespace Go.Proofs.YtcodpnkfpmjleaaGreatDoor
open Go.RowKit
set_option maxHeartbeats 40000000
set_option maxRecDepth 100000

theorem spoil_q2 (b : Nat) (a pa0 ja0 : Option Addr) (cap pcap0 jcap0 u : Nat) (code : List Int) (c : Cu) (N : Nt) (w : World) (hB : Bys code) (hat : c.at' ≤ 100000) (hn : code.length ≤ 1048576) (ho : OffB a code.length b) (hsm : Sm N u) (hu : u ≤ 2) (hqv : pickV code 10 c = 2) (hc : CurAt w b a code.length cap c) (hx : BytesAt w a code) (hp : PcsAt w pa0 N.pcs) (hj : JtsAt w ja0 N.jts) :
    Calls Tryz.prog 38 #[.pointer (some ⟨b, 0, none⟩), .agg #[.slice pa0 N.pcs.length pcap0, .slice ja0 N.jts.length jcap0]] w fun e w' => SpoilPost b a code.length cap (u + 1) c w e w' := by
  have HB := hide hB
  have HQV := hide (show pickV code (10 : Nat) c = ((2 : Nat) : Int) from hqv)
  have HX := hide hx
  have HO := hide ho
  have hbw := cell_lt hc.c0
  have hA : Below w.heap.size w ((w.alloc (.cells #[.slice pa0 N.pcs.length pcap0, .slice ja0 N.jts.length jcap0] 26)).alloc (.cells #[.slice none 0 0, .slice none 0 0] 26)) := ((Below.refl _ _).alloc (Nat.le_refl _) _).alloc (by simp) _
  have HS0 := hide (sb_new (pa := pa0) (ja := ja0) (np := N.pcs.length) (nj := N.jts.length) (pcap := pcap0) (jcap := jcap0) hc)
  have HP0 := hide (hp.later hA)
  have HJ0 := hide (hj.later hA)
  have hz0 : ((w.alloc (.cells #[.slice pa0 N.pcs.length pcap0, .slice ja0 N.jts.length jcap0] 26)).alloc (.cells #[.slice none 0 0, .slice none 0 0] 26)).heap.size = w.heap.size + 2 := by simp
  have hpl : N.pcs.length ≤ 300 := by have := hsm.pcs; omega
  have hjl : N.jts.length ≤ 300 := by have := hsm.jts; omega
  have HJE := hide (show ∀ j ∈ N.jts, j.ends.length ≤ 1000 from fun j hj => by have := (hsm.jn j hj).2; omega)
  have hplu := hsm.pcs
  have hjlu := hsm.jts
  have HSM := hide hsm.up
  have HJ00 := hide (fun j hj => (hsm.jn j hj).2)
  clear hqv hB hx ho hc hp hj hA hsm
  go_enter Tryz.func38, Tryz.ntmps38
  have n0 := HS0.out.n0
  have n1 := HS0.out.n1
  go_wp2_with fail
  generalize (w.alloc (.cells #[.slice pa0 N.pcs.length pcap0, .slice ja0 N.jts.length jcap0] 26)).alloc (.cells #[.slice none 0 0, .slice none 0 0] 26) = w0 at *
  refine (l5copy_z pa0 ja0 N pcap0 jcap0 _ (by omega) (by omega) HJE.out HP0.out HJ0.out).mono ?_
  rintro e w1 ⟨pa, ja, pcap, jcap, js, hmap, rfl, hPR, hKZ, hb1⟩
  have hS1 := HS0.out.later hb1
  have n0 := hS1.n0
  have n1 := hS1.n1
  have nf0 := hS1.nf 0
  have nf1 := hS1.nf 1
  have HS2 := hide ((hS1.set0 (.slice pa N.pcs.length pcap)).set1 (.slice ja N.jts.length jcap))
  have HP2 := hide (ownsRow_setCell_below (ownsRow_setCell_below (owns_mono hPR (base' := w.heap.size + 2) (by omega)) (a := (⟨w.heap.size, 0, none⟩ : Addr)) (by show w.heap.size < w.heap.size + 2; omega) (.slice pa N.pcs.length pcap)) (a := (⟨w.heap.size, 1, none⟩ : Addr)) (by show w.heap.size < w.heap.size + 2; omega) (.slice ja N.jts.length jcap))
  have HK2 := hide (((hKZ.mono (base' := w.heap.size + 2) (by omega)).setBelow (B := w.heap.size) (o := 0) (by omega) (.slice pa N.pcs.length pcap)).setBelow (B := w.heap.size) (o := 1) (by omega) (.slice ja N.jts.length jcap))
  obtain ⟨ps, rfl⟩ : ∃ ps, N = ⟨ps, js.map (·.jt)⟩ := ⟨N.pcs, by rw [hmap]⟩
  dsimp only at *
  rw [List.length_map] at *
  have HJN0 := hide (show ∀ t ∈ js, t.jt.ends.length ≤ 18 + u from fun t ht => HJ00.out t.jt (List.mem_map.2 ⟨t, ht, rfl⟩))
  clear hPR hKZ hb1 hS1 hmap HS0 HP0 HJ0 HJE HJ00
  go_wp2_with fail
  generalize (w1.setCell ⟨w.heap.size, 0, none⟩ (.slice pa ps.length pcap)).setCell ⟨w.heap.size, 1, none⟩ (.slice ja js.length jcap) = w2 at *
  clear n0 n1 nf0 nf1
  refine (sb_pickV 10 2 HB.out (by omega) hn HO.out HX.out (by omega) (by omega) HQV.out HS2.out).mono ?_
  rintro e w3 ⟨c3, rfl, hat3, hS3, hm3⟩
  have HS := hide hS3
  have HP := hide (owns_mid HP2.out hm3 (by omega))
  have HK := hide (HK2.out.mid hm3 (by omega))
  have hz3 : w.heap.size + 2 ≤ w3.heap.size := by have := cell_lt hS3.r0; omega
  clear hS3 hm3 HS2 HP2 HK2 hz0
  by_cases hj0 : js.length = 0
  · have g0 : decide ((js.length : Int) > 0) = false := decide_eq_false (by omega)
    have g0n : decide (0 < js.length) = false := decide_eq_false (by omega)
    clear hj0
    have n0 := HS.out.n0
    have n1 := HS.out.n1
    have nf0 := HS.out.nf 0
    have nf1 := HS.out.nf 1
    have r0 := HS.out.r0
    have r1 := HS.out.r1
    have rf0 := HS.out.rf 0
    have rf1 := HS.out.rf 1
    go_wp2_with fail
    refine bodyPost_ret (v := .agg #[.slice pa ps.length pcap, .slice ja js.length jcap]) (by simp [results, Tryz.results38, go_sem, r0, r1]) rfl ?_
    exact spoil_endL (c := c) (ps := ps) (js := js) HS.out rfl HP.out rfl HK.out (Nat.le_refl _) HSM.out (by omega)
  · have g0 : decide ((js.length : Int) > 0) = true := decide_eq_true (by omega)
    have g0n : decide (0 < js.length) = true := decide_eq_true (by omega)
    have hp1 : 0 < js.length := by omega
    obtain ⟨g, cp, hjv, hgb, hgl⟩ := HK.out.own.form (by omega)
    obtain ⟨rfl, rfl⟩ : ja = some ⟨g, 0, none⟩ ∧ jcap = cp := by simpa using hjv
    clear hjv hj0
    have n0 := HS.out.n0
    have n1 := HS.out.n1
    have nf0 := HS.out.nf 0
    have nf1 := HS.out.nf 1
    have r0 := HS.out.r0
    have r1 := HS.out.r1
    have rf0 := HS.out.rf 0
    have rf1 := HS.out.rf 1
    go_upto_region 25 with fail
    go_cut [6] from 104 to 115 (fun s6 wx => ∃ (k : Nat) (c4 : Cu), k < js.length ∧ s6 = .pointer (some ⟨g, k * 3, none⟩) ∧ c4.at' ≤ c.at' + 4 ∧ Hid (SB w wx b a code.length cap c4 w.heap.size (w.heap.size + 1) (.slice pa ps.length pcap) (.slice (some ⟨g, 0, none⟩) js.length jcap)) ∧ Hid (wx.ownsRow (w.heap.size + 2) 63 4 (.slice pa ps.length pcap) ps.length (pcCells ps)) ∧ Hid (KZ wx (w.heap.size + 2) (.slice (some ⟨g, 0, none⟩) js.length jcap) js))
    case first =>
      have HS6 := hide (HS.out.later ((Below.refl _ _).drew))
      have HP6 := hide (owns_later' HP.out ((Below.refl _ _).drew))
      have HK6 := hide (HK.out.later ((Below.refl _ _).drew))
      have n6 := HS6.out.n1
      go_region_with (first
        | (go_at_call 31; refine (sb_pick js.length HB.out (by omega) hn HO.out HX.out (by omega) (by omega) HS6.out).mono ?_; rintro e wQ ⟨k, c4, hk, rfl, hat4, hS7, hm7⟩; have HS7 := hide hS7; have HP7 := hide (owns_mid HP6.out hm7 (by omega)); have HK7 := hide (HK6.out.mid hm7 (by omega)); have n7 := HS7.out.n1; have hki : (k : Int) < (js.length : Int) := by omega))
      all_goals
        go_simp
        go_wp2_with fail
        go_meet
        refine ⟨k, c4, hk, ?_, by omega, HS7, HP7, HK7⟩
        first | rfl | (go_simp; done) | (simp [go_sem]; done) | (simp [go_sem, Nat.mul_comm]; done)
    case rest =>
      clear HS HP HK n0 n1 nf0 nf1 r0 r1 rf0 rf1
      obtain ⟨k, c4, hk, rfl, hat4, HS, HP, HK⟩ := hcut
      rename World => w4
      have hJN : js[k].jt.name.size ≤ 30 ∧ js[k].jt.ends.length ≤ 18 + (u + 1) := HSM.out.jn _ (List.mem_map.2 ⟨js[k], List.getElem_mem hk, rfl⟩)
      have hJN0 : js[k].jt.ends.length ≤ 18 + u := HJN0.out _ (List.getElem_mem hk)
      have hz4 : w.heap.size + 2 ≤ w4.heap.size := by have := cell_lt HS.out.r0; omega
      go_wp2_with fail
      refine (sb_pick 5 HB.out (by omega) hn HO.out HX.out (by omega) (by omega) HS.out).mono ?_
      rintro e w5 ⟨q5, c5, hq5, rfl, hat5, hHS5, hm5⟩
      have HS5 := hide hHS5
      have HP5 := hide (owns_mid HP.out hm5 (by omega))
      have HK5 := hide (HK.out.mid hm5 (by omega))
      clear hHS5
      have hz5 : w.heap.size + 2 ≤ w5.heap.size := by have := cell_lt HS5.out.r0; omega
      clear hm5 HS HP HK
      obtain rfl | rfl | rfl | rfl | rfl : q5 = 0 ∨ q5 = 1 ∨ q5 = 2 ∨ q5 = 3 ∨ q5 = 4 := by omega
      · go_wp2_with fail
        refine (sb_pick 6 HB.out (by omega) hn HO.out HX.out (by omega) (by omega) HS5.out).mono ?_
        rintro e w7 ⟨kk, c7, hkk, rfl, hat7, hHS7, hm7⟩
        have HS7 := hide hHS7
        have HP7 := hide (owns_mid HP5.out hm7 (by omega))
        have HK7 := hide (HK5.out.mid hm7 (by omega))
        clear hHS7
        obtain ⟨d0, d1, d2⟩ := jtCells_at js k hk
        have e0 : w7.cell? ⟨g, k * 3, none⟩ = some (.int .i64 js[k].jt.kind) := by rw [HK7.out.own.cellAt _ (by omega)]; exact d0
        have e1 : w7.cell? ⟨g, k * 3 + 1, none⟩ = some (.string js[k].jt.name) := by rw [HK7.out.own.cellAt _ (by omega)]; exact d1
        have e2 : w7.cell? ⟨g, k * 3 + 2, none⟩ = some (.slice js[k].ad js[k].jt.ends.length js[k].cap) := by rw [HK7.out.own.cellAt _ (by omega)]; exact d2
        have ef : ∀ o, w7.frozen? ⟨g, o, none⟩ = false := fun o => HK7.out.own.frozenAt _
        have ef0 := ef (k * 3)
        have ef1 := ef (k * 3 + 1)
        have ef2 := ef (k * 3 + 2)
        have HEF := hide ef
        clear d0 d1 d2 ef
        have HK8 := hide (show KZ (w7.setCell ⟨g, k * 3, none⟩ (.int .i64 kk)) (w.heap.size + 2) (.slice (some ⟨g, 0, none⟩) js.length jcap) (js.set k ⟨⟨(kk : Int), js[k].jt.name, js[k].jt.ends⟩, js[k].ad, js[k].cap⟩) from HK7.out.field hk ⟨⟨(kk : Int), js[k].jt.name, js[k].jt.ends⟩, js[k].ad, js[k].cap⟩ 0 (by omega) (.int .i64 kk) rfl (.inl ⟨rfl, rfl, rfl⟩))
        have HP8 := hide (pcs_setJ (o := k * 3) HP7.out HK7.out.own (.int .i64 kk))
        have HS8 := hide (HS7.out.setHi (g := g) (o := k * 3) (by omega) (.int .i64 kk))
        have HSM8 := hide (HSM.out.joint (k := k) (t := ⟨⟨(kk : Int), js[k].jt.name, js[k].jt.ends⟩, js[k].ad, js[k].cap⟩) hJN)
        clear hm7
        have n0 := HS8.out.n0
        have n1 := HS8.out.n1
        have nf0 := HS8.out.nf 0
        have nf1 := HS8.out.nf 1
        have r0 := HS8.out.r0
        have r1 := HS8.out.r1
        have rf0 := HS8.out.rf 0
        have rf1 := HS8.out.rf 1
        go_wp2_with fail
        refine bodyPost_ret (v := .agg #[.slice pa ps.length pcap, .slice (some ⟨g, 0, none⟩) js.length jcap]) (by simp [results, Tryz.results38, go_sem, r0, r1]) rfl ?_
        exact spoil_endL (c := c) (ps := ps) (js := (js.set k ⟨⟨(kk : Int), js[k].jt.name, js[k].jt.ends⟩, js[k].ad, js[k].cap⟩)) HS8.out rfl HP8.out List.length_set HK8.out (Nat.le_refl _) HSM8.out (by omega)
      · have hA := (Below.refl w5.heap.size w5).alloc (Nat.le_refl _) (.cells #[.string ⟨#[]⟩, .string ⟨#[119]⟩, .string ⟨#[87]⟩, .string ⟨#[120, 49, 48, 48]⟩] 9)
        have HT := hide (fun (p : Nat) (hp : p < 4) => show ∃ x : ByteArray, x.size ≤ 30 ∧ (w5.alloc (.cells #[.string ⟨#[]⟩, .string ⟨#[119]⟩, .string ⟨#[87]⟩, .string ⟨#[120, 49, 48, 48]⟩] 9)).cell? ⟨w5.heap.size, p, none⟩ = some (.string x) by
          have h : p = 0 ∨ p = 1 ∨ p = 2 ∨ p = 3 := by omega
          rcases h with rfl | rfl | rfl | rfl
          all_goals exact ⟨_, by decide, new_cell w5 #[.string ⟨#[]⟩, .string ⟨#[119]⟩, .string ⟨#[87]⟩, .string ⟨#[120, 49, 48, 48]⟩] 9 _ _ rfl⟩)
        have HSt := hide (HS5.out.later hA)
        have HPt := hide (owns_later' HP5.out hA)
        have HKt := hide (HK5.out.later hA)
        clear hA HS5 HP5 HK5
        go_wp2_with fail
        generalize w5.alloc (.cells #[.string ⟨#[]⟩, .string ⟨#[119]⟩, .string ⟨#[87]⟩, .string ⟨#[120, 49, 48, 48]⟩] 9) = wt at *
        refine (sb_pick 4 HB.out (by omega) hn HO.out HX.out (by omega) (by omega) HSt.out).mono ?_
        rintro e w7 ⟨kk, c7, hkk, rfl, hat7, hHS7, hm7⟩
        have HS7 := hide hHS7
        have HP7 := hide (owns_mid HPt.out hm7 (by omega))
        have HK7 := hide (HKt.out.mid hm7 (by omega))
        clear hHS7
        obtain ⟨x, hxs, tx⟩ := HT.out kk hkk
        have tx := hm7.cell (.inr (by omega)) tx
        obtain ⟨d0, d1, d2⟩ := jtCells_at js k hk
        have e0 : w7.cell? ⟨g, k * 3, none⟩ = some (.int .i64 js[k].jt.kind) := by rw [HK7.out.own.cellAt _ (by omega)]; exact d0
        have e1 : w7.cell? ⟨g, k * 3 + 1, none⟩ = some (.string js[k].jt.name) := by rw [HK7.out.own.cellAt _ (by omega)]; exact d1
        have e2 : w7.cell? ⟨g, k * 3 + 2, none⟩ = some (.slice js[k].ad js[k].jt.ends.length js[k].cap) := by rw [HK7.out.own.cellAt _ (by omega)]; exact d2
        have ef : ∀ o, w7.frozen? ⟨g, o, none⟩ = false := fun o => HK7.out.own.frozenAt _
        have ef0 := ef (k * 3)
        have ef1 := ef (k * 3 + 1)
        have ef2 := ef (k * 3 + 2)
        have HEF := hide ef
        clear d0 d1 d2 ef
        have HK8 := hide (show KZ (w7.setCell ⟨g, k * 3 + 1, none⟩ (.string x)) (w.heap.size + 2) (.slice (some ⟨g, 0, none⟩) js.length jcap) (js.set k ⟨⟨js[k].jt.kind, x, js[k].jt.ends⟩, js[k].ad, js[k].cap⟩) from HK7.out.field hk ⟨⟨js[k].jt.kind, x, js[k].jt.ends⟩, js[k].ad, js[k].cap⟩ 1 (by omega) (.string x) rfl (.inl ⟨rfl, rfl, rfl⟩))
        have HP8 := hide (pcs_setJ (o := k * 3 + 1) HP7.out HK7.out.own (.string x))
        have HS8 := hide (HS7.out.setHi (g := g) (o := k * 3 + 1) (by omega) (.string x))
        have HSM8 := hide (HSM.out.joint (k := k) (t := ⟨⟨js[k].jt.kind, x, js[k].jt.ends⟩, js[k].ad, js[k].cap⟩) ⟨hxs, hJN.2⟩)
        have hkki : (kk : Int) < 4 := by omega
        clear hm7 HT
        have n0 := HS8.out.n0
        have n1 := HS8.out.n1
        have nf0 := HS8.out.nf 0
        have nf1 := HS8.out.nf 1
        have r0 := HS8.out.r0
        have r1 := HS8.out.r1
        have rf0 := HS8.out.rf 0
        have rf1 := HS8.out.rf 1
        go_wp2_with fail
        refine bodyPost_ret (v := .agg #[.slice pa ps.length pcap, .slice (some ⟨g, 0, none⟩) js.length jcap]) (by simp [results, Tryz.results38, go_sem, r0, r1]) rfl ?_
        exact spoil_endL (c := c) (ps := ps) (js := (js.set k ⟨⟨js[k].jt.kind, x, js[k].jt.ends⟩, js[k].ad, js[k].cap⟩)) HS8.out rfl HP8.out List.length_set HK8.out (Nat.le_refl _) HSM8.out (by omega)
      · obtain ⟨d0, d1, d2⟩ := jtCells_at js k hk
        have e0 : w5.cell? ⟨g, k * 3, none⟩ = some (.int .i64 js[k].jt.kind) := by rw [HK5.out.own.cellAt _ (by omega)]; exact d0
        have e1 : w5.cell? ⟨g, k * 3 + 1, none⟩ = some (.string js[k].jt.name) := by rw [HK5.out.own.cellAt _ (by omega)]; exact d1
        have e2 : w5.cell? ⟨g, k * 3 + 2, none⟩ = some (.slice js[k].ad js[k].jt.ends.length js[k].cap) := by rw [HK5.out.own.cellAt _ (by omega)]; exact d2
        have ef : ∀ o, w5.frozen? ⟨g, o, none⟩ = false := fun o => HK5.out.own.frozenAt _
        have ef0 := ef (k * 3)
        have ef1 := ef (k * 3 + 1)
        have ef2 := ef (k * 3 + 2)
        have HEF := hide ef
        clear d0 d1 d2 ef
        by_cases he0 : js[k].jt.ends.length = 0
        · have h0i : decide ((js[k].jt.ends.length : Int) > 0) = false := decide_eq_false (by omega)
          have h0n : decide (0 < js[k].jt.ends.length) = false := decide_eq_false (by omega)
          clear he0
          have n0 := HS5.out.n0
          have n1 := HS5.out.n1
          have nf0 := HS5.out.nf 0
          have nf1 := HS5.out.nf 1
          have r0 := HS5.out.r0
          have r1 := HS5.out.r1
          have rf0 := HS5.out.rf 0
          have rf1 := HS5.out.rf 1
          go_wp2_with fail
          refine bodyPost_ret (v := .agg #[.slice pa ps.length pcap, .slice (some ⟨g, 0, none⟩) js.length jcap]) (by simp [results, Tryz.results38, go_sem, r0, r1]) rfl ?_
          exact spoil_endL (c := c) (ps := ps) (js := js) HS5.out rfl HP5.out rfl HK5.out (Nat.le_refl _) HSM.out (by omega)
        · have h0i : decide ((js[k].jt.ends.length : Int) > 0) = true := decide_eq_true (by omega)
          have h0n : decide (0 < js[k].jt.ends.length) = true := decide_eq_true (by omega)
          have hp1 : 0 < js[k].jt.ends.length := by omega
          obtain ⟨eb, ec, hev, heb1, heb2⟩ := (HK5.out.ends _ (List.getElem_mem hk)).form (by omega)
          obtain ⟨had, hcp⟩ : js[k].ad = some ⟨eb, 0, none⟩ ∧ js[k].cap = ec := by simpa using hev
          rw [had] at e2
          have HAD := hide had
          clear hev had hcp he0
          have n0 := HS5.out.n0
          have n1 := HS5.out.n1
          have nf0 := HS5.out.nf 0
          have nf1 := HS5.out.nf 1
          have r0 := HS5.out.r0
          have r1 := HS5.out.r1
          have rf0 := HS5.out.rf 0
          have rf1 := HS5.out.rf 1
          go_upto_region 34 with fail
          have HSx := hide (HS5.out.later ((Below.refl _ _).drew))
          have HPx := hide (owns_later' HP5.out ((Below.refl _ _).drew))
          have HKx := hide (HK5.out.later ((Below.refl _ _).drew))
          have HTx := hide (show w5.drew.cell? ⟨g, k * 3 + 2, none⟩ = some (.slice (some ⟨eb, 0, none⟩) js[k].jt.ends.length js[k].cap) ∧ w5.drew.cell? ⟨w.heap.size, 0, none⟩ = some (.slice pa ps.length pcap) from ⟨cell_later' ((Below.refl w5.heap.size w5).drew) e2, HSx.out.n0⟩)
          have hwp : IntKind.i64.wrap ((ps.length : Int) + 2) = (ps.length : Int) + 2 := by rw [IntKind.wrap_i64]; omega
          have HGE := hide (show eb ≠ g from fun e => by
            have h9 := owns_ne HK5.out.own (HK5.out.ends _ (List.getElem_mem hk)) (by decide)
            rw [HAD.out] at h9
            rcases h9 with h9 | h9
            · exact absurd h9 (by simp [Value.ownBlock])
            · exact h9 (by simp [Value.ownBlock, e]))
          go_region_held3 (fun wx => wx.cell? ⟨g, k * 3 + 2, none⟩ = some (.slice (some ⟨eb, 0, none⟩) js[k].jt.ends.length js[k].cap) ∧ wx.cell? ⟨w.heap.size, 0, none⟩ = some (.slice pa ps.length pcap))
            (first
              | (with_reducible exact HTx.out)
              | (with_reducible exact HTa.out)
              | (with_reducible exact HTb.out)
              | (with_reducible exact HTc.out)
              | (with_reducible exact HTs.out))
            (first
              | (go_at_call 31; with_reducible (refine (sb_pick js[k].jt.ends.length HB.out (by omega) hn HO.out HX.out (by omega) (by omega) HSx.out).mono ?_); (rintro e wA ⟨k1, cA, hk1, rfl, hatA, hSa, hmA⟩; have HSa := hide hSa; have HPa := hide (owns_mid HPx.out hmA (by omega)); have HKa := hide (HKx.out.mid hmA (by omega)); have HTa := hide (And.intro (hmA.cell (.inr (by omega)) HTx.out.1) HSa.out.n0); have hk1i : (k1 : Int) < (js[k].jt.ends.length : Int) := (by omega); clear hSa hmA))
              | (go_at_call 31; with_reducible (refine (sb_pickI (ps.length + 2) ((ps.length : Int) + 2) (by omega) HB.out (by omega) hn HO.out HX.out (by omega) (by omega) HSa.out).mono ?_); (rintro e wB ⟨k2, cB, hk2, rfl, hatB, hSb, hmB⟩; have HSb := hide hSb; have HPb := hide (owns_mid HPa.out hmB (by omega)); have HKb := hide (HKa.out.mid hmB (by omega)); have hw2 : IntKind.i64.wrap ((k2 : Int) - 1) = (k2 : Int) - 1 := (by rw [IntKind.wrap_i64]; omega); have HTb := hide (And.intro (hmB.cell (.inr (by omega)) HTa.out.1) HSb.out.n0); clear hSb hmB))
              | (go_at_call 31; with_reducible (refine (sb_pickI 4 4 rfl HB.out (by omega) hn HO.out HX.out (by omega) (by omega) HSb.out).mono ?_); (rintro e wC ⟨k3, cC, hk3, rfl, hatC, hSc, hmC⟩; have HSc := hide hSc; have HPc := hide (owns_mid HPb.out hmC (by omega)); have HKc := hide (HKb.out.mid hmC (by omega)); have hw3 : IntKind.i64.wrap ((k3 : Int) - 1) = (k3 : Int) - 1 := (by rw [IntKind.wrap_i64]; omega); have HTc := hide (And.intro (hmC.cell (.inr (by omega)) HTb.out.1) HSc.out.n0); have hE := HKc.out.ends _ (List.getElem_mem hk); rw [HAD.out] at hE; obtain ⟨y0, y1, yf0, yf1⟩ := ends_get hE rfl hk1; have HTs := hide (show ((wC.setCell ⟨eb, k1 * 2, none⟩ (.int .i64 ((k2 : Int) - 1))).setCell ⟨eb, k1 * 2 + 1, none⟩ (.int .i64 ((k3 : Int) - 1))).cell? ⟨g, k * 3 + 2, none⟩ = some (.slice (some ⟨eb, 0, none⟩) js[k].jt.ends.length js[k].cap) ∧ ((wC.setCell ⟨eb, k1 * 2, none⟩ (.int .i64 ((k2 : Int) - 1))).setCell ⟨eb, k1 * 2 + 1, none⟩ (.int .i64 ((k3 : Int) - 1))).cell? ⟨w.heap.size, 0, none⟩ = some (.slice pa ps.length pcap) from ⟨by rw [World.cell?_setCell_far _ _ _ _ (by show eb ≠ g; exact HGE.out), World.cell?_setCell_far _ _ _ _ (by show eb ≠ g; exact HGE.out)]; exact HTc.out.1, by rw [World.cell?_setCell_far _ _ _ _ (by show eb ≠ w.heap.size; omega), World.cell?_setCell_far _ _ _ _ (by show eb ≠ w.heap.size; omega)]; exact HTc.out.2⟩); clear hSc hmC hE)))
          all_goals
            have hE := HKc.out.ends _ (List.getElem_mem hk)
            rw [HAD.out] at hE
            obtain ⟨y0, y1, yf0, yf1⟩ := ends_get hE rfl hk1
            have HK8 := hide (HKc.out.endPut hk hk1 HAD.out ((k2 : Int) - 1) ((k3 : Int) - 1))
            have HP8 := hide (pcs_setE (o := k1 * 2 + 1) (pcs_setE (o := k1 * 2) HPc.out hE (.int .i64 ((k2 : Int) - 1))) (hE.stored _ _).1 (.int .i64 ((k3 : Int) - 1)))
            have HS8 := hide ((HSc.out.setHi (g := eb) (o := k1 * 2) (by omega) (.int .i64 ((k2 : Int) - 1))).setHi (g := eb) (o := k1 * 2 + 1) (by omega) (.int .i64 ((k3 : Int) - 1)))
            have HSM8 := hide (HSM.out.joint (k := k) (t := ⟨⟨js[k].jt.kind, js[k].jt.name, js[k].jt.ends.set k1 ((k2 : Int) - 1, (k3 : Int) - 1)⟩, js[k].ad, js[k].cap⟩) ⟨hJN.1, by rw [List.length_set]; exact hJN.2⟩)
            clear hE
            have qn0 := HS8.out.n0
            have qn1 := HS8.out.n1
            have qnf0 := HS8.out.nf 0
            have qnf1 := HS8.out.nf 1
            have qr0 := HS8.out.r0
            have qr1 := HS8.out.r1
            have qrf0 := HS8.out.rf 0
            have qrf1 := HS8.out.rf 1
            go_simp
            go_wp2_with fail
            refine bodyPost_ret (v := .agg #[.slice pa ps.length pcap, .slice (some ⟨g, 0, none⟩) js.length jcap]) (by simp [results, Tryz.results38, go_sem, qr0, qr1]) rfl ?_
            exact spoil_endL (c := c) (ps := ps) (js := (js.set k ⟨⟨js[k].jt.kind, js[k].jt.name, js[k].jt.ends.set k1 ((k2 : Int) - 1, (k3 : Int) - 1)⟩, js[k].ad, js[k].cap⟩)) HS8.out rfl HP8.out List.length_set HK8.out (Nat.le_refl _) HSM8.out (by omega)
      · obtain ⟨d0, d1, d2⟩ := jtCells_at js k hk
        have e0 : w5.cell? ⟨g, k * 3, none⟩ = some (.int .i64 js[k].jt.kind) := by rw [HK5.out.own.cellAt _ (by omega)]; exact d0
        have e1 : w5.cell? ⟨g, k * 3 + 1, none⟩ = some (.string js[k].jt.name) := by rw [HK5.out.own.cellAt _ (by omega)]; exact d1
        have e2 : w5.cell? ⟨g, k * 3 + 2, none⟩ = some (.slice js[k].ad js[k].jt.ends.length js[k].cap) := by rw [HK5.out.own.cellAt _ (by omega)]; exact d2
        have ef : ∀ o, w5.frozen? ⟨g, o, none⟩ = false := fun o => HK5.out.own.frozenAt _
        have ef0 := ef (k * 3)
        have ef1 := ef (k * 3 + 1)
        have ef2 := ef (k * 3 + 2)
        have HEF := hide ef
        clear d0 d1 d2 ef
        obtain ⟨iE, hiE, zE0, zE1, zE2⟩ := infos info_End
        have HIE := hide hiE
        have HZE0 := hide zE0
        have HZE1 := hide zE1
        have HZE2 := hide zE2
        clear hiE zE0 zE1 zE2
        have hA := (Below.refl w5.heap.size w5).alloc (Nat.le_refl _) (.cells #[.int .i64 0, .int .i64 0] 75)
        have HSt := hide (HS5.out.later hA)
        have HPt := hide (owns_later' HP5.out hA)
        have HKt := hide (HK5.out.later hA)
        have hzt : (w5.alloc (.cells #[.int .i64 0, .int .i64 0] 75)).heap.size = w5.heap.size + 1 := by simp
        have hml : js[k].jt.ends.length + 1 ≤ maxLen := by unfold maxLen; omega
        have HLT := hide (fun g' (h : (Value.slice js[k].ad js[k].jt.ends.length js[k].cap).ownBlock = some g') => ((HKt.out.ends _ (List.getElem_mem hk)).lt g' h).1)
        clear hA
        go_wp2_with (first
          | (at_builtin; (refine wpList_append_lies _ rfl _ _ _ rfl (w.heap.size + 2) 75 iE _ 2 16 Tryz.underlying67 HIE.out HZE0.out HZE1.out HZE2.out rfl (by omega) (.slice js[k].ad js[k].jt.ends.length js[k].cap) js[k].jt.ends.length (endCells js[k].jt.ends) rfl (HKt.out.ends _ (List.getElem_mem hk)) ⟨_, 0, none⟩ 1 1 [.int .i64 0, .int .i64 0] rfl rfl (news_at rfl) (by simp [Value.oneCell']) (by omega) hml (by omega) (by simp; omega) _ rfl ?_); intro g2 cp2 w7 hown2 hgrow2 hgg2 _; have HS7 := hide (HSt.out.grown hgrow2 (fun g' h => by have := HLT.out g' h; omega)); have HP7 := hide (owns_kept HPt.out (HKt.out.ends _ (List.getElem_mem hk)) (by decide) hgrow2); have f2 := hgrow2.cell (cell_later' ((Below.refl w5.heap.size w5).alloc (Nat.le_refl _) _) e2) (show some g ≠ _ from fun e => by have h9 := owns_ne HKt.out.own (HKt.out.ends _ (List.getElem_mem hk)) (by decide); rcases h9 with h9 | h9; exact absurd h9 (by simp [Value.ownBlock]); exact h9 (by rw [← e]; rfl)); have hJ7 := owns_kept HKt.out.own (HKt.out.ends _ (List.getElem_mem hk)) (by decide) hgrow2; have ff2 := hJ7.frozenAt (k * 3 + 2); have HK8 := hide (HKt.out.more (e := (0, 0)) hk hown2 hgrow2 (by rcases hgg2 with h | h; exact .inl h; exact .inr (by omega))); have HP8 := hide (pcs_setJ (o := k * 3 + 2) HP7.out hJ7 (.slice (some ⟨g2, 0, none⟩) (js[k].jt.ends.length + 1) cp2)); have HS8 := hide (HS7.out.setHi (g := g) (o := k * 3 + 2) (by omega) (.slice (some ⟨g2, 0, none⟩) (js[k].jt.ends.length + 1) cp2)); have HSM8 := hide (HSM.out.joint (k := k) (t := ⟨⟨js[k].jt.kind, js[k].jt.name, js[k].jt.ends ++ [(0, 0)]⟩, some ⟨g2, 0, none⟩, cp2⟩) ⟨hJN.1, by simp; omega⟩); have q0 := HS8.out.n0; have q1 := HS8.out.n1; have r0 := HS8.out.r0; have r1 := HS8.out.r1; have rf0 := HS8.out.rf 0; have rf1 := HS8.out.rf 1; clear hown2 hgrow2 hgg2 hJ7))
        all_goals
          refine bodyPost_ret (v := .agg #[.slice pa ps.length pcap, .slice (some ⟨g, 0, none⟩) js.length jcap]) (by simp [results, Tryz.results38, go_sem, r0, r1]) rfl ?_
          exact spoil_endL (c := c) (ps := ps) (js := (js.set k ⟨⟨js[k].jt.kind, js[k].jt.name, js[k].jt.ends ++ [(0, 0)]⟩, some ⟨g2, 0, none⟩, cp2⟩)) HS8.out rfl HP8.out List.length_set HK8.out (Nat.le_refl _) HSM8.out (by omega)
      · obtain ⟨d0, d1, d2⟩ := jtCells_at js k hk
        have e0 : w5.cell? ⟨g, k * 3, none⟩ = some (.int .i64 js[k].jt.kind) := by rw [HK5.out.own.cellAt _ (by omega)]; exact d0
        have e1 : w5.cell? ⟨g, k * 3 + 1, none⟩ = some (.string js[k].jt.name) := by rw [HK5.out.own.cellAt _ (by omega)]; exact d1
        have e2 : w5.cell? ⟨g, k * 3 + 2, none⟩ = some (.slice js[k].ad js[k].jt.ends.length js[k].cap) := by rw [HK5.out.own.cellAt _ (by omega)]; exact d2
        have ef : ∀ o, w5.frozen? ⟨g, o, none⟩ = false := fun o => HK5.out.own.frozenAt _
        have ef0 := ef (k * 3)
        have ef1 := ef (k * 3 + 1)
        have ef2 := ef (k * 3 + 2)
        have HEF := hide ef
        clear d0 d1 d2 ef
        have HK8 := hide (show KZ (w5.setCell ⟨g, k * 3 + 2, none⟩ (.slice none 0 0)) (w.heap.size + 2) (.slice (some ⟨g, 0, none⟩) js.length jcap) (js.set k ⟨⟨js[k].jt.kind, js[k].jt.name, []⟩, none, 0⟩) from HK5.out.field hk ⟨⟨js[k].jt.kind, js[k].jt.name, []⟩, none, 0⟩ 2 (by omega) (.slice none 0 0) rfl (.inr ⟨rfl, rfl, rfl⟩))
        have HP8 := hide (pcs_setJ (o := k * 3 + 2) HP5.out HK5.out.own (.slice none 0 0))
        have HS8 := hide (HS5.out.setHi (g := g) (o := k * 3 + 2) (by omega) (.slice none 0 0))
        have HSM8 := hide (HSM.out.joint (k := k) (t := ⟨⟨js[k].jt.kind, js[k].jt.name, []⟩, none, 0⟩) ⟨hJN.1, by simp⟩)
        have n0 := HS8.out.n0
        have n1 := HS8.out.n1
        have nf0 := HS8.out.nf 0
        have nf1 := HS8.out.nf 1
        have r0 := HS8.out.r0
        have r1 := HS8.out.r1
        have rf0 := HS8.out.rf 0
        have rf1 := HS8.out.rf 1
        go_wp2_with fail
        refine bodyPost_ret (v := .agg #[.slice pa ps.length pcap, .slice (some ⟨g, 0, none⟩) js.length jcap]) (by simp [results, Tryz.results38, go_sem, r0, r1]) rfl ?_
        exact spoil_endL (c := c) (ps := ps) (js := (js.set k ⟨⟨js[k].jt.kind, js[k].jt.name, []⟩, none, 0⟩)) HS8.out rfl HP8.out List.length_set HK8.out (Nat.le_refl _) HSM8.out (by omega)
end Go.Proofs.YtcodpnkfpmjleaaGreatDoor
