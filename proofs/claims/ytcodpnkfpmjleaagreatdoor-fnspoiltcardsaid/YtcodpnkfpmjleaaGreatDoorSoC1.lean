/- The spoiler. Own work. -/
import Derived.Test.YtcodpnkfpmjleaaGreatDoorMxBC
import Derived.Deep.RegionHeld3
import Derived.Deep.RegionLaw
import Derived.Deep.RegionWith
import Derived.Deep.CutRange
import Derived.Deep.DeepCutAuto
namespace Go.Proofs.YtcodpnkfpmjleaaGreatDoor
open Go.RowKit
set_option maxHeartbeats 40000000
set_option maxRecDepth 100000

theorem spoil_q1 (b : Nat) (a pa0 ja0 : Option Addr) (cap pcap0 jcap0 u : Nat) (code : List Int) (c : Cu) (N : Nt) (w : World) (hB : Bys code) (hat : c.at' ≤ 100000) (hn : code.length ≤ 1048576) (ho : OffB a code.length b) (hsm : Sm N u) (hu : u ≤ 2) (hqv : pickV code 10 c = 1) (hc : CurAt w b a code.length cap c) (hx : BytesAt w a code) (hp : PcsAt w pa0 N.pcs) (hj : JtsAt w ja0 N.jts) :
    Calls Tryz.prog 38 #[.pointer (some ⟨b, 0, none⟩), .agg #[.slice pa0 N.pcs.length pcap0, .slice ja0 N.jts.length jcap0]] w fun e w' => SpoilPost b a code.length cap (u + 1) c w e w' := by
  have HB := hide hB
  have HQV := hide (show pickV code (10 : Nat) c = ((1 : Nat) : Int) from hqv)
  have HX := hide hx
  have HO := hide ho
  have hbw := cell_lt hc.c0
  have hA : Below w.heap.size w ((w.alloc (.cells #[.slice pa0 N.pcs.length pcap0, .slice ja0 N.jts.length jcap0] 26)).alloc (.cells #[.slice none 0 0, .slice none 0 0] 26)) := ((Below.refl _ _).alloc (Nat.le_refl _) _).alloc (by simp) _
  have HS0 := hide (sb_new (pa := pa0) (ja := ja0) (np := N.pcs.length) (nj := N.jts.length) (pcap := pcap0) (jcap := jcap0) hc)
  have HP0 := hide (hp.later hA)
  have HJ0 := hide (hj.later hA)
  have hz0 : ((w.alloc (.cells #[.slice pa0 N.pcs.length pcap0, .slice ja0 N.jts.length jcap0] 26)).alloc (.cells #[.slice none 0 0, .slice none 0 0] 26)).heap.size = w.heap.size + 2 := by simp
  have hpl : N.pcs.length ≤ 300 := by have := hsm.pcs; omega
  have hjl : N.jts.length ≤ 300 := by have := hsm.jts; omega
  have HJE := hide (show ∀ j ∈ N.jts, j.ends.length ≤ 1000 from fun j hj => by have := (hsm.jn j hj).2; omega)
  have hplu := hsm.pcs
  have hjlu := hsm.jts
  have HSM := hide hsm.up
  have HJ00 := hide (fun j hj => (hsm.jn j hj).2)
  clear hqv hB hx ho hc hp hj hA hsm
  go_enter Tryz.func38, Tryz.ntmps38
  have n0 := HS0.out.n0
  have n1 := HS0.out.n1
  go_wp2_with fail
  generalize (w.alloc (.cells #[.slice pa0 N.pcs.length pcap0, .slice ja0 N.jts.length jcap0] 26)).alloc (.cells #[.slice none 0 0, .slice none 0 0] 26) = w0 at *
  refine (l5copy_z pa0 ja0 N pcap0 jcap0 _ (by omega) (by omega) HJE.out HP0.out HJ0.out).mono ?_
  rintro e w1 ⟨pa, ja, pcap, jcap, js, hmap, rfl, hPR, hKZ, hb1⟩
  have hS1 := HS0.out.later hb1
  have n0 := hS1.n0
  have n1 := hS1.n1
  have nf0 := hS1.nf 0
  have nf1 := hS1.nf 1
  have HS2 := hide ((hS1.set0 (.slice pa N.pcs.length pcap)).set1 (.slice ja N.jts.length jcap))
  have HP2 := hide (ownsRow_setCell_below (ownsRow_setCell_below (owns_mono hPR (base' := w.heap.size + 2) (by omega)) (a := (⟨w.heap.size, 0, none⟩ : Addr)) (by show w.heap.size < w.heap.size + 2; omega) (.slice pa N.pcs.length pcap)) (a := (⟨w.heap.size, 1, none⟩ : Addr)) (by show w.heap.size < w.heap.size + 2; omega) (.slice ja N.jts.length jcap))
  have HK2 := hide (((hKZ.mono (base' := w.heap.size + 2) (by omega)).setBelow (B := w.heap.size) (o := 0) (by omega) (.slice pa N.pcs.length pcap)).setBelow (B := w.heap.size) (o := 1) (by omega) (.slice ja N.jts.length jcap))
  obtain ⟨ps, rfl⟩ : ∃ ps, N = ⟨ps, js.map (·.jt)⟩ := ⟨N.pcs, by rw [hmap]⟩
  dsimp only at *
  rw [List.length_map] at *
  have HJN0 := hide (show ∀ t ∈ js, t.jt.ends.length ≤ 18 + u from fun t ht => HJ00.out t.jt (List.mem_map.2 ⟨t, ht, rfl⟩))
  clear hPR hKZ hb1 hS1 hmap HS0 HP0 HJ0 HJE HJ00
  go_wp2_with fail
  generalize (w1.setCell ⟨w.heap.size, 0, none⟩ (.slice pa ps.length pcap)).setCell ⟨w.heap.size, 1, none⟩ (.slice ja js.length jcap) = w2 at *
  clear n0 n1 nf0 nf1
  refine (sb_pickV 10 1 HB.out (by omega) hn HO.out HX.out (by omega) (by omega) HQV.out HS2.out).mono ?_
  rintro e w3 ⟨c3, rfl, hat3, hS3, hm3⟩
  have HS := hide hS3
  have HP := hide (owns_mid HP2.out hm3 (by omega))
  have HK := hide (HK2.out.mid hm3 (by omega))
  have hz3 : w.heap.size + 2 ≤ w3.heap.size := by have := cell_lt hS3.r0; omega
  clear hS3 hm3 HS2 HP2 HK2 hz0
  have HS4 := hide (HS.out.set0 (.slice none 0 0))
  have HK4 := hide (HK.out.setBelow (B := w.heap.size) (o := 0) (by omega) (.slice none 0 0))
  have hn0 := HS.out.n0
  have hnf0 := HS.out.nf 0
  have n0 := HS4.out.n0
  have n1 := HS4.out.n1
  have nf0 := HS4.out.nf 0
  have nf1 := HS4.out.nf 1
  have r0 := HS4.out.r0
  have r1 := HS4.out.r1
  have rf0 := HS4.out.rf 0
  have rf1 := HS4.out.rf 1
  go_wp2_with fail
  refine bodyPost_ret (v := .agg #[.slice none 0 0, .slice ja js.length jcap]) (by simp [results, Tryz.results38, go_sem, r0, r1]) rfl ?_
  exact spoil_endL (c := c) (ps := []) (js := js) HS4.out rfl (World.ownsRow_nil _ _ _ _) rfl HK4.out (Nat.le_refl _) HSM.out.noPieces (by omega)
theorem spoil_q6 (b : Nat) (a pa0 ja0 : Option Addr) (cap pcap0 jcap0 u : Nat) (code : List Int) (c : Cu) (N : Nt) (w : World) (hB : Bys code) (hat : c.at' ≤ 100000) (hn : code.length ≤ 1048576) (ho : OffB a code.length b) (hsm : Sm N u) (hu : u ≤ 2) (hqv : pickV code 10 c = 6) (hc : CurAt w b a code.length cap c) (hx : BytesAt w a code) (hp : PcsAt w pa0 N.pcs) (hj : JtsAt w ja0 N.jts) :
    Calls Tryz.prog 38 #[.pointer (some ⟨b, 0, none⟩), .agg #[.slice pa0 N.pcs.length pcap0, .slice ja0 N.jts.length jcap0]] w fun e w' => SpoilPost b a code.length cap (u + 1) c w e w' := by
  have HB := hide hB
  have HQV := hide (show pickV code (10 : Nat) c = ((6 : Nat) : Int) from hqv)
  have HX := hide hx
  have HO := hide ho
  have hbw := cell_lt hc.c0
  have hA : Below w.heap.size w ((w.alloc (.cells #[.slice pa0 N.pcs.length pcap0, .slice ja0 N.jts.length jcap0] 26)).alloc (.cells #[.slice none 0 0, .slice none 0 0] 26)) := ((Below.refl _ _).alloc (Nat.le_refl _) _).alloc (by simp) _
  have HS0 := hide (sb_new (pa := pa0) (ja := ja0) (np := N.pcs.length) (nj := N.jts.length) (pcap := pcap0) (jcap := jcap0) hc)
  have HP0 := hide (hp.later hA)
  have HJ0 := hide (hj.later hA)
  have hz0 : ((w.alloc (.cells #[.slice pa0 N.pcs.length pcap0, .slice ja0 N.jts.length jcap0] 26)).alloc (.cells #[.slice none 0 0, .slice none 0 0] 26)).heap.size = w.heap.size + 2 := by simp
  have hpl : N.pcs.length ≤ 300 := by have := hsm.pcs; omega
  have hjl : N.jts.length ≤ 300 := by have := hsm.jts; omega
  have HJE := hide (show ∀ j ∈ N.jts, j.ends.length ≤ 1000 from fun j hj => by have := (hsm.jn j hj).2; omega)
  have hplu := hsm.pcs
  have hjlu := hsm.jts
  have HSM := hide hsm.up
  have HJ00 := hide (fun j hj => (hsm.jn j hj).2)
  clear hqv hB hx ho hc hp hj hA hsm
  go_enter Tryz.func38, Tryz.ntmps38
  have n0 := HS0.out.n0
  have n1 := HS0.out.n1
  go_wp2_with fail
  generalize (w.alloc (.cells #[.slice pa0 N.pcs.length pcap0, .slice ja0 N.jts.length jcap0] 26)).alloc (.cells #[.slice none 0 0, .slice none 0 0] 26) = w0 at *
  refine (l5copy_z pa0 ja0 N pcap0 jcap0 _ (by omega) (by omega) HJE.out HP0.out HJ0.out).mono ?_
  rintro e w1 ⟨pa, ja, pcap, jcap, js, hmap, rfl, hPR, hKZ, hb1⟩
  have hS1 := HS0.out.later hb1
  have n0 := hS1.n0
  have n1 := hS1.n1
  have nf0 := hS1.nf 0
  have nf1 := hS1.nf 1
  have HS2 := hide ((hS1.set0 (.slice pa N.pcs.length pcap)).set1 (.slice ja N.jts.length jcap))
  have HP2 := hide (ownsRow_setCell_below (ownsRow_setCell_below (owns_mono hPR (base' := w.heap.size + 2) (by omega)) (a := (⟨w.heap.size, 0, none⟩ : Addr)) (by show w.heap.size < w.heap.size + 2; omega) (.slice pa N.pcs.length pcap)) (a := (⟨w.heap.size, 1, none⟩ : Addr)) (by show w.heap.size < w.heap.size + 2; omega) (.slice ja N.jts.length jcap))
  have HK2 := hide (((hKZ.mono (base' := w.heap.size + 2) (by omega)).setBelow (B := w.heap.size) (o := 0) (by omega) (.slice pa N.pcs.length pcap)).setBelow (B := w.heap.size) (o := 1) (by omega) (.slice ja N.jts.length jcap))
  obtain ⟨ps, rfl⟩ : ∃ ps, N = ⟨ps, js.map (·.jt)⟩ := ⟨N.pcs, by rw [hmap]⟩
  dsimp only at *
  rw [List.length_map] at *
  have HJN0 := hide (show ∀ t ∈ js, t.jt.ends.length ≤ 18 + u from fun t ht => HJ00.out t.jt (List.mem_map.2 ⟨t, ht, rfl⟩))
  clear hPR hKZ hb1 hS1 hmap HS0 HP0 HJ0 HJE HJ00
  go_wp2_with fail
  generalize (w1.setCell ⟨w.heap.size, 0, none⟩ (.slice pa ps.length pcap)).setCell ⟨w.heap.size, 1, none⟩ (.slice ja js.length jcap) = w2 at *
  clear n0 n1 nf0 nf1
  refine (sb_pickV 10 6 HB.out (by omega) hn HO.out HX.out (by omega) (by omega) HQV.out HS2.out).mono ?_
  rintro e w3 ⟨c3, rfl, hat3, hS3, hm3⟩
  have HS := hide hS3
  have HP := hide (owns_mid HP2.out hm3 (by omega))
  have HK := hide (HK2.out.mid hm3 (by omega))
  have hz3 : w.heap.size + 2 ≤ w3.heap.size := by have := cell_lt hS3.r0; omega
  clear hS3 hm3 HS2 HP2 HK2 hz0
  by_cases hj0 : js.length = 0
  · have g0 : decide ((js.length : Int) > 0) = false := decide_eq_false (by omega)
    have g0n : decide (0 < js.length) = false := decide_eq_false (by omega)
    clear hj0
    have n0 := HS.out.n0
    have n1 := HS.out.n1
    have nf0 := HS.out.nf 0
    have nf1 := HS.out.nf 1
    have r0 := HS.out.r0
    have r1 := HS.out.r1
    have rf0 := HS.out.rf 0
    have rf1 := HS.out.rf 1
    go_wp2_with fail
    refine bodyPost_ret (v := .agg #[.slice pa ps.length pcap, .slice ja js.length jcap]) (by simp [results, Tryz.results38, go_sem, r0, r1]) rfl ?_
    exact spoil_endL (c := c) (ps := ps) (js := js) HS.out rfl HP.out rfl HK.out (Nat.le_refl _) HSM.out (by omega)
  · have g0 : decide ((js.length : Int) > 0) = true := decide_eq_true (by omega)
    have g0n : decide (0 < js.length) = true := decide_eq_true (by omega)
    obtain ⟨m, hm⟩ : ∃ m, js.length = m + 1 := ⟨js.length - 1, by omega⟩
    have hcap : js.length ≤ jcap := by
      rcases HK.out.own.2 with ⟨h, h0⟩ | ⟨g', cap', cur, h, _, _, h2, _⟩
      · simp at h; omega
      · simp at h; omega
    obtain ⟨g, cp, hjv, hgb, hgl⟩ := HK.out.own.form (by omega)
    obtain ⟨rfl, rfl⟩ : ja = some ⟨g, 0, none⟩ ∧ jcap = cp := by simpa using hjv
    have hmi : (js.length : Int) - 1 = (m : Int) := by omega
    have hcapi : (m : Int) ≤ (jcap : Int) := by omega
    have hmle : m ≤ js.length := by omega
    have hn1 := HS.out.n1
    have hnf1 := HS.out.nf 1
    have HS8 := hide (HS.out.set1 (.slice (some ⟨g, 0, none⟩) m jcap))
    have HP8 := hide (ownsRow_setCell_below HP.out (a := (⟨w.heap.size, 1, none⟩ : Addr)) (by show w.heap.size < w.heap.size + 2; omega) (.slice (some ⟨g, 0, none⟩) m jcap))
    have HK8 := hide (HK.out.setBelow (B := w.heap.size) (o := 1) (by omega) (.slice (some ⟨g, 0, none⟩) m jcap))
    clear hjv hj0 hm
    have n0 := HS8.out.n0
    have n1 := HS8.out.n1
    have nf0 := HS8.out.nf 0
    have nf1 := HS8.out.nf 1
    have r0 := HS8.out.r0
    have r1 := HS8.out.r1
    have rf0 := HS8.out.rf 0
    have rf1 := HS8.out.rf 1
    go_wp2_with fail
    refine bodyPost_ret (v := .agg #[.slice pa ps.length pcap, .slice (some ⟨g, 0, none⟩) m jcap]) (by simp [results, Tryz.results38, go_sem, r0, r1]) rfl ?_
    exact spoil_endL (c := c) (ps := ps) (js := js) HS8.out rfl HP8.out rfl HK8.out hmle HSM.out (by omega)
theorem spoil_q7 (b : Nat) (a pa0 ja0 : Option Addr) (cap pcap0 jcap0 u : Nat) (code : List Int) (c : Cu) (N : Nt) (w : World) (hB : Bys code) (hat : c.at' ≤ 100000) (hn : code.length ≤ 1048576) (ho : OffB a code.length b) (hsm : Sm N u) (hu : u ≤ 2) (hqv : pickV code 10 c = 7) (hc : CurAt w b a code.length cap c) (hx : BytesAt w a code) (hp : PcsAt w pa0 N.pcs) (hj : JtsAt w ja0 N.jts) :
    Calls Tryz.prog 38 #[.pointer (some ⟨b, 0, none⟩), .agg #[.slice pa0 N.pcs.length pcap0, .slice ja0 N.jts.length jcap0]] w fun e w' => SpoilPost b a code.length cap (u + 1) c w e w' := by
  have HB := hide hB
  have HQV := hide (show pickV code (10 : Nat) c = ((7 : Nat) : Int) from hqv)
  have HX := hide hx
  have HO := hide ho
  have hbw := cell_lt hc.c0
  have hA : Below w.heap.size w ((w.alloc (.cells #[.slice pa0 N.pcs.length pcap0, .slice ja0 N.jts.length jcap0] 26)).alloc (.cells #[.slice none 0 0, .slice none 0 0] 26)) := ((Below.refl _ _).alloc (Nat.le_refl _) _).alloc (by simp) _
  have HS0 := hide (sb_new (pa := pa0) (ja := ja0) (np := N.pcs.length) (nj := N.jts.length) (pcap := pcap0) (jcap := jcap0) hc)
  have HP0 := hide (hp.later hA)
  have HJ0 := hide (hj.later hA)
  have hz0 : ((w.alloc (.cells #[.slice pa0 N.pcs.length pcap0, .slice ja0 N.jts.length jcap0] 26)).alloc (.cells #[.slice none 0 0, .slice none 0 0] 26)).heap.size = w.heap.size + 2 := by simp
  have hpl : N.pcs.length ≤ 300 := by have := hsm.pcs; omega
  have hjl : N.jts.length ≤ 300 := by have := hsm.jts; omega
  have HJE := hide (show ∀ j ∈ N.jts, j.ends.length ≤ 1000 from fun j hj => by have := (hsm.jn j hj).2; omega)
  have hplu := hsm.pcs
  have hjlu := hsm.jts
  have HSM := hide hsm.up
  have HJ00 := hide (fun j hj => (hsm.jn j hj).2)
  clear hqv hB hx ho hc hp hj hA hsm
  go_enter Tryz.func38, Tryz.ntmps38
  have n0 := HS0.out.n0
  have n1 := HS0.out.n1
  go_wp2_with fail
  generalize (w.alloc (.cells #[.slice pa0 N.pcs.length pcap0, .slice ja0 N.jts.length jcap0] 26)).alloc (.cells #[.slice none 0 0, .slice none 0 0] 26) = w0 at *
  refine (l5copy_z pa0 ja0 N pcap0 jcap0 _ (by omega) (by omega) HJE.out HP0.out HJ0.out).mono ?_
  rintro e w1 ⟨pa, ja, pcap, jcap, js, hmap, rfl, hPR, hKZ, hb1⟩
  have hS1 := HS0.out.later hb1
  have n0 := hS1.n0
  have n1 := hS1.n1
  have nf0 := hS1.nf 0
  have nf1 := hS1.nf 1
  have HS2 := hide ((hS1.set0 (.slice pa N.pcs.length pcap)).set1 (.slice ja N.jts.length jcap))
  have HP2 := hide (ownsRow_setCell_below (ownsRow_setCell_below (owns_mono hPR (base' := w.heap.size + 2) (by omega)) (a := (⟨w.heap.size, 0, none⟩ : Addr)) (by show w.heap.size < w.heap.size + 2; omega) (.slice pa N.pcs.length pcap)) (a := (⟨w.heap.size, 1, none⟩ : Addr)) (by show w.heap.size < w.heap.size + 2; omega) (.slice ja N.jts.length jcap))
  have HK2 := hide (((hKZ.mono (base' := w.heap.size + 2) (by omega)).setBelow (B := w.heap.size) (o := 0) (by omega) (.slice pa N.pcs.length pcap)).setBelow (B := w.heap.size) (o := 1) (by omega) (.slice ja N.jts.length jcap))
  obtain ⟨ps, rfl⟩ : ∃ ps, N = ⟨ps, js.map (·.jt)⟩ := ⟨N.pcs, by rw [hmap]⟩
  dsimp only at *
  rw [List.length_map] at *
  have HJN0 := hide (show ∀ t ∈ js, t.jt.ends.length ≤ 18 + u from fun t ht => HJ00.out t.jt (List.mem_map.2 ⟨t, ht, rfl⟩))
  clear hPR hKZ hb1 hS1 hmap HS0 HP0 HJ0 HJE HJ00
  go_wp2_with fail
  generalize (w1.setCell ⟨w.heap.size, 0, none⟩ (.slice pa ps.length pcap)).setCell ⟨w.heap.size, 1, none⟩ (.slice ja js.length jcap) = w2 at *
  clear n0 n1 nf0 nf1
  refine (sb_pickV 10 7 HB.out (by omega) hn HO.out HX.out (by omega) (by omega) HQV.out HS2.out).mono ?_
  rintro e w3 ⟨c3, rfl, hat3, hS3, hm3⟩
  have HS := hide hS3
  have HP := hide (owns_mid HP2.out hm3 (by omega))
  have HK := hide (HK2.out.mid hm3 (by omega))
  have hz3 : w.heap.size + 2 ≤ w3.heap.size := by have := cell_lt hS3.r0; omega
  clear hS3 hm3 HS2 HP2 HK2 hz0
  obtain ⟨iJ, hiJ, zJ0, zJ1, zJ2⟩ := infos info_Joint
  have HIJ := hide hiJ
  have HZJ0 := hide zJ0
  have HZJ1 := hide zJ1
  have HZJ2 := hide zJ2
  clear hiJ zJ0 zJ1 zJ2
  have n0 := HS.out.n0
  have n1 := HS.out.n1
  have nf0 := HS.out.nf 0
  have nf1 := HS.out.nf 1
  have r0 := HS.out.r0
  have r1 := HS.out.r1
  have rf0 := HS.out.rf 0
  have rf1 := HS.out.rf 1
  have hA1 := (Below.refl w3.heap.size w3).alloc (Nat.le_refl _) (.cells #[.int .i64 0, .int .i64 0] 75)
  have hA2 := (Below.refl (w3.alloc (.cells #[.int .i64 0, .int .i64 0] 75)).heap.size (w3.alloc (.cells #[.int .i64 0, .int .i64 0] 75))).alloc (Nat.le_refl _) (.cells #[.int .i64 1, .string ⟨#[]⟩, .slice (some ⟨w3.heap.size, 0, none⟩) 1 1] 69)
  have HKL := hide HK.out.low
  have HSt := hide ((HS.out.later hA1).later hA2)
  have HPt := hide (owns_later' (owns_later' HP.out hA1) hA2)
  have HKt := hide ((HK.out.later hA1).later hA2)
  have HTE := hide (owns_later' (owns_new (w := w3) (base := w.heap.size + 2) (n := 1) (T := 75) (size := 2) (cs := #[.int .i64 0, .int .i64 0]) (by omega) rfl (by unfold maxLen; omega)) hA2)
  have hml : js.length + 1 ≤ maxLen := by unfold maxLen; omega
  have HLT := hide (fun g' (h : (Value.slice ja js.length jcap).ownBlock = some g') => (HKt.out.own.lt g' h).1)
  clear hA1 hA2
  go_wp2_with (first
    | (at_builtin; (refine wpList_append_lies _ rfl _ _ _ rfl (w.heap.size + 2) 69 iJ _ 3 48 Tryz.underlying24 HIJ.out HZJ0.out HZJ1.out HZJ2.out rfl (by omega) (.slice ja js.length jcap) js.length (jtCells js) rfl HKt.out.own ⟨_, 0, none⟩ 1 1 [.int .i64 1, .string ⟨#[]⟩, .slice (some ⟨w3.heap.size, 0, none⟩) 1 1] rfl rfl (news_at (by simp)) (by simp [Value.oneCell']) (by omega) hml (by omega) (by simp; omega) _ rfl ?_); intro g2 cp2 w7 hown2 hgrow2 _ _; have HS7 := hide (HSt.out.grown hgrow2 (fun g' h => by have := HLT.out g' h; omega)); have HP7 := hide (owns_kept HPt.out HKt.out.own (by decide) hgrow2); have HK7 := hide (KZ.add (t := ⟨⟨1, ⟨#[]⟩, [(0, 0)]⟩, some ⟨w3.heap.size, 0, none⟩, 1⟩) HKt.out hgrow2 hown2 HTE.out HKL.out (fun x hx => by have e := Option.some.inj hx; rw [← e]; exact Nat.le_refl _)); have p1 := HS7.out.n1; have pf1 := HS7.out.nf 1; have HS8 := hide (HS7.out.set1 (.slice (some ⟨g2, 0, none⟩) (js.length + 1) cp2)); have HP8 := hide (ownsRow_setCell_below HP7.out (a := (⟨w.heap.size, 1, none⟩ : Addr)) (by show w.heap.size < w.heap.size + 2; omega) (.slice (some ⟨g2, 0, none⟩) (js.length + 1) cp2)); have HK8 := hide (HK7.out.setBelow (B := w.heap.size) (o := 1) (by omega) (.slice (some ⟨g2, 0, none⟩) (js.length + 1) cp2)); have q0 := HS8.out.n0; have q1 := HS8.out.n1; have r0 := HS8.out.r0; have r1 := HS8.out.r1; have rf0 := HS8.out.rf 0; have rf1 := HS8.out.rf 1; clear hown2 hgrow2))
  all_goals
    have HSM8 := hide (HSM.out.addJ (t := ⟨⟨1, ⟨#[]⟩, [(0, 0)]⟩, some ⟨w3.heap.size, 0, none⟩, 1⟩) ⟨by show (ByteArray.mk #[]).size ≤ 30; decide, by simp; omega⟩ (by omega))
    refine bodyPost_ret (v := .agg #[.slice pa ps.length pcap, .slice (some ⟨g2, 0, none⟩) (js.length + 1) cp2]) (by simp [results, Tryz.results38, go_sem, r0, r1]) rfl ?_
    exact spoil_endL (c := c) (ps := ps) (js := (js ++ [⟨⟨1, ⟨#[]⟩, [(0, 0)]⟩, some ⟨w3.heap.size, 0, none⟩, 1⟩])) HS8.out rfl HP8.out (by simp) HK8.out (Nat.le_refl _) HSM8.out (by omega)
theorem spoil_q8 (b : Nat) (a pa0 ja0 : Option Addr) (cap pcap0 jcap0 u : Nat) (code : List Int) (c : Cu) (N : Nt) (w : World) (hB : Bys code) (hat : c.at' ≤ 100000) (hn : code.length ≤ 1048576) (ho : OffB a code.length b) (hsm : Sm N u) (hu : u ≤ 2) (hqv : pickV code 10 c = 8) (hc : CurAt w b a code.length cap c) (hx : BytesAt w a code) (hp : PcsAt w pa0 N.pcs) (hj : JtsAt w ja0 N.jts) :
    Calls Tryz.prog 38 #[.pointer (some ⟨b, 0, none⟩), .agg #[.slice pa0 N.pcs.length pcap0, .slice ja0 N.jts.length jcap0]] w fun e w' => SpoilPost b a code.length cap (u + 1) c w e w' := by
  have HB := hide hB
  have HQV := hide (show pickV code (10 : Nat) c = ((8 : Nat) : Int) from hqv)
  have HX := hide hx
  have HO := hide ho
  have hbw := cell_lt hc.c0
  have hA : Below w.heap.size w ((w.alloc (.cells #[.slice pa0 N.pcs.length pcap0, .slice ja0 N.jts.length jcap0] 26)).alloc (.cells #[.slice none 0 0, .slice none 0 0] 26)) := ((Below.refl _ _).alloc (Nat.le_refl _) _).alloc (by simp) _
  have HS0 := hide (sb_new (pa := pa0) (ja := ja0) (np := N.pcs.length) (nj := N.jts.length) (pcap := pcap0) (jcap := jcap0) hc)
  have HP0 := hide (hp.later hA)
  have HJ0 := hide (hj.later hA)
  have hz0 : ((w.alloc (.cells #[.slice pa0 N.pcs.length pcap0, .slice ja0 N.jts.length jcap0] 26)).alloc (.cells #[.slice none 0 0, .slice none 0 0] 26)).heap.size = w.heap.size + 2 := by simp
  have hpl : N.pcs.length ≤ 300 := by have := hsm.pcs; omega
  have hjl : N.jts.length ≤ 300 := by have := hsm.jts; omega
  have HJE := hide (show ∀ j ∈ N.jts, j.ends.length ≤ 1000 from fun j hj => by have := (hsm.jn j hj).2; omega)
  have hplu := hsm.pcs
  have hjlu := hsm.jts
  have HSM := hide hsm.up
  have HJ00 := hide (fun j hj => (hsm.jn j hj).2)
  clear hqv hB hx ho hc hp hj hA hsm
  go_enter Tryz.func38, Tryz.ntmps38
  have n0 := HS0.out.n0
  have n1 := HS0.out.n1
  go_wp2_with fail
  generalize (w.alloc (.cells #[.slice pa0 N.pcs.length pcap0, .slice ja0 N.jts.length jcap0] 26)).alloc (.cells #[.slice none 0 0, .slice none 0 0] 26) = w0 at *
  refine (l5copy_z pa0 ja0 N pcap0 jcap0 _ (by omega) (by omega) HJE.out HP0.out HJ0.out).mono ?_
  rintro e w1 ⟨pa, ja, pcap, jcap, js, hmap, rfl, hPR, hKZ, hb1⟩
  have hS1 := HS0.out.later hb1
  have n0 := hS1.n0
  have n1 := hS1.n1
  have nf0 := hS1.nf 0
  have nf1 := hS1.nf 1
  have HS2 := hide ((hS1.set0 (.slice pa N.pcs.length pcap)).set1 (.slice ja N.jts.length jcap))
  have HP2 := hide (ownsRow_setCell_below (ownsRow_setCell_below (owns_mono hPR (base' := w.heap.size + 2) (by omega)) (a := (⟨w.heap.size, 0, none⟩ : Addr)) (by show w.heap.size < w.heap.size + 2; omega) (.slice pa N.pcs.length pcap)) (a := (⟨w.heap.size, 1, none⟩ : Addr)) (by show w.heap.size < w.heap.size + 2; omega) (.slice ja N.jts.length jcap))
  have HK2 := hide (((hKZ.mono (base' := w.heap.size + 2) (by omega)).setBelow (B := w.heap.size) (o := 0) (by omega) (.slice pa N.pcs.length pcap)).setBelow (B := w.heap.size) (o := 1) (by omega) (.slice ja N.jts.length jcap))
  obtain ⟨ps, rfl⟩ : ∃ ps, N = ⟨ps, js.map (·.jt)⟩ := ⟨N.pcs, by rw [hmap]⟩
  dsimp only at *
  rw [List.length_map] at *
  have HJN0 := hide (show ∀ t ∈ js, t.jt.ends.length ≤ 18 + u from fun t ht => HJ00.out t.jt (List.mem_map.2 ⟨t, ht, rfl⟩))
  clear hPR hKZ hb1 hS1 hmap HS0 HP0 HJ0 HJE HJ00
  go_wp2_with fail
  generalize (w1.setCell ⟨w.heap.size, 0, none⟩ (.slice pa ps.length pcap)).setCell ⟨w.heap.size, 1, none⟩ (.slice ja js.length jcap) = w2 at *
  clear n0 n1 nf0 nf1
  refine (sb_pickV 10 8 HB.out (by omega) hn HO.out HX.out (by omega) (by omega) HQV.out HS2.out).mono ?_
  rintro e w3 ⟨c3, rfl, hat3, hS3, hm3⟩
  have HS := hide hS3
  have HP := hide (owns_mid HP2.out hm3 (by omega))
  have HK := hide (HK2.out.mid hm3 (by omega))
  have hz3 : w.heap.size + 2 ≤ w3.heap.size := by have := cell_lt hS3.r0; omega
  clear hS3 hm3 HS2 HP2 HK2 hz0
  obtain ⟨iP, hiP, zP0, zP1, zP2⟩ := infos info_Piece
  have HIP := hide hiP
  have HZP0 := hide zP0
  have HZP1 := hide zP1
  have HZP2 := hide zP2
  clear hiP zP0 zP1 zP2
  have n0 := HS.out.n0
  have n1 := HS.out.n1
  have nf0 := HS.out.nf 0
  have nf1 := HS.out.nf 1
  have r0 := HS.out.r0
  have r1 := HS.out.r1
  have rf0 := HS.out.rf 0
  have rf1 := HS.out.rf 1
  have hA1 := (Below.refl w3.heap.size w3).alloc (Nat.le_refl _) (.cells #[.string ⟨#[122]⟩, .int .i64 1, .int .i64 1, .int .i64 1] 63)
  have HSt := hide (HS.out.later hA1)
  have HPt := hide (owns_later' HP.out hA1)
  have HKt := hide (HK.out.later hA1)
  have hml : ps.length + 1 ≤ maxLen := by unfold maxLen; omega
  have HLT := hide (fun g' (h : (Value.slice pa ps.length pcap).ownBlock = some g') => (HPt.out.lt g' h).1)
  clear hA1
  go_wp2_with (first
    | (at_builtin; (refine wpList_append_lies _ rfl _ _ _ rfl (w.heap.size + 2) 63 iP _ 4 40 Tryz.underlying23 HIP.out HZP0.out HZP1.out HZP2.out rfl (by omega) (.slice pa ps.length pcap) ps.length (pcCells ps) rfl HPt.out ⟨_, 0, none⟩ 1 1 [.string ⟨#[122]⟩, .int .i64 1, .int .i64 1, .int .i64 1] rfl rfl (news_at rfl) (by simp [Value.oneCell']) (by omega) hml (by omega) (by simp; omega) _ rfl ?_); intro g2 cp2 w7 hown2 hgrow2 _ _; have HS7 := hide (HSt.out.grown hgrow2 (fun g' h => by have := HLT.out g' h; omega)); have HK7 := hide (HKt.out.keptPc HPt.out hgrow2); have p1 := HS7.out.n0; have pf1 := HS7.out.nf 0; have HS8 := hide (HS7.out.set0 (.slice (some ⟨g2, 0, none⟩) (ps.length + 1) cp2)); have HP8 := hide (show (w7.setCell ⟨w.heap.size, 0, none⟩ (.slice (some ⟨g2, 0, none⟩) (ps.length + 1) cp2)).ownsRow (w.heap.size + 2) 63 4 (.slice (some ⟨g2, 0, none⟩) (ps.length + 1) cp2) (ps.length + 1) (pcCells (ps ++ [⟨⟨#[122]⟩, 1, 1, 1⟩])) by rw [pcCells_add]; exact ownsRow_setCell_below hown2 (a := (⟨w.heap.size, 0, none⟩ : Addr)) (by show w.heap.size < w.heap.size + 2; omega) _); have HK8 := hide (HK7.out.setBelow (B := w.heap.size) (o := 0) (by omega) (.slice (some ⟨g2, 0, none⟩) (ps.length + 1) cp2)); have q0 := HS8.out.n0; have q1 := HS8.out.n1; have r0 := HS8.out.r0; have r1 := HS8.out.r1; have rf0 := HS8.out.rf 0; have rf1 := HS8.out.rf 1; clear hown2 hgrow2))
  all_goals
    have HSM8 := hide (HSM.out.add (p := ⟨⟨#[122]⟩, 1, 1, 1⟩) (by decide) (by omega))
    refine bodyPost_ret (v := .agg #[.slice (some ⟨g2, 0, none⟩) (ps.length + 1) cp2, .slice ja js.length jcap]) (by simp [results, Tryz.results38, go_sem, r0, r1]) rfl ?_
    exact spoil_endL (c := c) (ps := (ps ++ [⟨⟨#[122]⟩, 1, 1, 1⟩])) (js := js) HS8.out (by simp) HP8.out rfl HK8.out (Nat.le_refl _) HSM8.out (by omega)
end Go.Proofs.YtcodpnkfpmjleaaGreatDoor
