/- The walk of FnExactReadNet. Own work. -/
import Derived.Test.YtjagfeihmnagkaaGreatDoorLwRn
import Derived.Test.YtjagfeihmnagkaaGreatDoorMxAT
namespace Go.Proofs.YtjagfeihmnagkaaGreatDoor
open Go.RowKit
set_option maxHeartbeats 4000000
set_option maxRecDepth 100000

theorem post_at {c l : Int} {N : Nt} {w w' : World} {e : Ending} (h : ReadPost (c, l, N) w e w') : ∃ pa pcap ja jcap js, e = .returned (.agg #[.int .i64 c, .int .i64 l, .slice pa N.pcs.length pcap, .slice ja N.jts.length jcap]) ∧ w'.ownsRow w.heap.size 55 4 (.slice pa N.pcs.length pcap) N.pcs.length (pcCells N.pcs) ∧ KR w' w.heap.size (.slice ja N.jts.length jcap) js ∧ js.length = N.jts.length ∧ (∀ t ∈ js, t.jt ∈ N.jts) ∧ PcsAt w' pa N.pcs ∧ JtsAt w' ja N.jts ∧ Below w.heap.size w w' := by
  obtain ⟨pv, jv, js, rfl, h1, h2, h3, h4⟩ := h
  obtain ⟨pa, pcap, rfl, hp⟩ := pcs_at_of h1
  obtain ⟨ja, jcap, rfl, hj⟩ := kjts_at_of h2
  have hl : js.length = N.jts.length := by rw [← show js.map (fun t : Jr => t.jt) = N.jts from h3]; simp
  rw [show js.map (·.jt) = N.jts from h3] at hj
  rw [hl] at h2
  refine ⟨pa, pcap, ja, jcap, js, by rw [hl], h1, h2, hl, fun t ht => ?_, hp, hj, h4⟩
  rw [← show js.map (fun t : Jr => t.jt) = N.jts from h3]
  exact List.mem_map.2 ⟨t, ht, rfl⟩
theorem fnReadNet_walk (t : Bl) (w : World) (hM : MX w) (hg : w.cell? ⟨0, 0, none⟩ = some (rtI 40)) :
    Calls Tryz.prog 3 #[.string (sb t)] w fun e w' => e = .returned (.bool true) ∧ Below w.heap.size w w' := by
  have HM := hide hM
  have HG := hide hg
  clear hM hg
  by_cases hl : (1048576 : Int) < ((sb t).size : Int)
  · have g1 : decide (((sb t).size : Int) > 1048576) = true := decide_eq_true hl
    go_enter Tryz.func3, Tryz.ntmps3
    go_wp2_with fail
    go_ret
    exact ⟨rfl, Below.refl _ _⟩
  have g1 : decide (((sb t).size : Int) > 1048576) = false := decide_eq_false hl
  have hls : (sb t).size ≤ 1048576 := by omega
  have hlt : t.length ≤ 1048576 := by rw [sb_size] at hls; exact hls
  have hsz := told_size t
  have HSP := hide (fun w' => specReadNet_any (sb t) w' hls)
  have HIM := hide (fun w' h1 h2 => implReadNet_any t w' hlt h1 h2)
  obtain ⟨c, l, N, hT⟩ : ∃ c l N, toldP (sb t) = (c, l, N) := ⟨_, _, _, rfl⟩
  rw [hT] at hsz HSP HIM
  have hpl : N.pcs.length ≤ 1048576 := by have := hsz.pcs; dsimp only at this; omega
  have hjl : N.jts.length ≤ 1048576 := by have := hsz.jts; dsimp only at this; omega
  have HJE := hide (show ∀ j ∈ N.jts, j.ends.length ≤ 1048576 from fun j hj => by have := (hsz.jn j hj).2; omega)
  clear hl hls hlt hsz hT
  go_enter Tryz.func3, Tryz.ntmps3
  go_wp2_with fail
  refine (HSP.out w).mono ?_
  intro e w1 h
  obtain ⟨pa, pcap, ja, jcap, js0, rfl, _, _, _, _, hP, hJ, hb1⟩ := post_at h
  clear h HSP g1
  have hb2 := bS0 w1 (.cells #[.int .i64 c, .int .i64 l, .slice pa N.pcs.length pcap, .slice ja N.jts.length jcap] 27)
  have s0 := new_cell w1 #[.int .i64 c, .int .i64 l, .slice pa N.pcs.length pcap, .slice ja N.jts.length jcap] 27 0 _ rfl
  have s1 := new_cell w1 #[.int .i64 c, .int .i64 l, .slice pa N.pcs.length pcap, .slice ja N.jts.length jcap] 27 1 _ rfl
  have s2 := new_cell w1 #[.int .i64 c, .int .i64 l, .slice pa N.pcs.length pcap, .slice ja N.jts.length jcap] 27 2 _ rfl
  have s3 := new_cell w1 #[.int .i64 c, .int .i64 l, .slice pa N.pcs.length pcap, .slice ja N.jts.length jcap] 27 3 _ rfl
  have HP := hide hP
  have HJ := hide hJ
  have HB1 := hide hb1
  have HB12 := hide hb2
  clear hP hJ hb1 hb2
  go_upto_region 4 with fail
  obtain ⟨b3, hb3⟩ : ∃ b3, w1.heap.size = b3 := ⟨_, rfl⟩
  have hsz2 : (w1.alloc (.cells #[.int .i64 c, .int .i64 l, .slice pa N.pcs.length pcap, .slice ja N.jts.length jcap] 27)).heap.size = b3 + 1 := by rw [World.size_alloc, hb3]
  generalize w1.alloc (.cells #[.int .i64 c, .int .i64 l, .slice pa N.pcs.length pcap, .slice ja N.jts.length jcap] 27) = w2 at *
  rw [hb3] at s0 s1 s2 s3 ⊢
  have HB2 := hide (chnB HB1.out HB12.out)
  have HC2 := hide (HIM.out w2 (HM.out.later HB2.out) (cell_later' HB2.out HG.out))
  go_wp2_with fail
  refine HC2.out.mono ?_
  intro e w3 h
  obtain ⟨qa, qcap, ka, kcap, js, rfl, hO, hK, hjsl, hjsm, hP2, hJ2, hb3'⟩ := post_at h
  clear h HC2
  have HTS := hide (fun x (h : TS (.slice qa N.pcs.length qcap) (.slice ka N.jts.length kcap) js x) => TS.bd hO hK h)
  have hb4 := bS0 w3 (.cells #[.int .i64 c, .int .i64 l, .slice qa N.pcs.length qcap, .slice ka N.jts.length kcap] 27)
  have hb24 := chnB hb3' hb4
  have s0 := cell_later' hb24 s0
  have s1 := cell_later' hb24 s1
  have s2 := cell_later' hb24 s2
  have s3 := cell_later' hb24 s3
  have r0 := new_cell w3 #[.int .i64 c, .int .i64 l, .slice qa N.pcs.length qcap, .slice ka N.jts.length kcap] 27 0 _ rfl
  have r1 := new_cell w3 #[.int .i64 c, .int .i64 l, .slice qa N.pcs.length qcap, .slice ka N.jts.length kcap] 27 1 _ rfl
  have r2 := new_cell w3 #[.int .i64 c, .int .i64 l, .slice qa N.pcs.length qcap, .slice ka N.jts.length kcap] 27 2 _ rfl
  have r3 := new_cell w3 #[.int .i64 c, .int .i64 l, .slice qa N.pcs.length qcap, .slice ka N.jts.length kcap] 27 3 _ rfl
  have HO4 := hide (owns_later' hO hb4)
  have HK4 := hide (hK.later hb4)
  have HP4 := hide (hP2.later hb4)
  have HJ4 := hide (hJ2.later hb4)
  have HB14 := hide (chnB HB12.out hb24)
  have hs23 : w2.heap.size ≤ w3.heap.size := hb3'.size
  clear hO hK hP2 hJ2 hb3' hb4 hb24
  go_upto_region 5 with fail
  obtain ⟨b4, hb4⟩ : ∃ b4, w3.heap.size = b4 := ⟨_, rfl⟩
  generalize w3.alloc (.cells #[.int .i64 c, .int .i64 l, .slice qa N.pcs.length qcap, .slice ka N.jts.length kcap] 27) = w4 at *
  rw [hb4] at r0 r1 r2 r3 HTS hs23 ⊢
  rw [hsz2] at HTS hs23 HO4 HK4
  have HB4 := hide (chnB HB1.out HB14.out)
  have HCE := hide (eqTold_same c l qa pa ka ja N qcap pcap kcap jcap w4 hpl hjl HJE.out HP4.out (HP.out.later HB14.out) HJ4.out (HJ.out.later HB14.out))
  have hl3 := cell_lt s0
  have hl4 := cell_lt r0
  go_wp2_with fail
  refine HCE.out.mono ?_
  rintro e w5 ⟨rfl, hb5⟩
  clear HCE
  have s0 := cell_later' hb5 s0
  have s1 := cell_later' hb5 s1
  have s2 := cell_later' hb5 s2
  have s3 := cell_later' hb5 s3
  have r0 := cell_later' hb5 r0
  have r1 := cell_later' hb5 r1
  have r2 := cell_later' hb5 r2
  have r3 := cell_later' hb5 r3
  have HB15 := hide (chnB HB14.out hb5)
  have HJE2 := hide (show ∀ t ∈ js, t.jt.ends.length ≤ 1048576 from fun t ht => HJE.out _ (hjsm t ht))
  have HCM := hide (markTold_own (b3 + 1) c l _ _ N.pcs js 1 w5 hpl (by omega) HJE2.out (by omega) (by omega) (owns_later' HO4.out hb5) (HK4.out.later hb5))
  obtain ⟨kk, hkk⟩ : ∃ kk, kj js (1 + 4 * N.pcs.length) js.length = kk := ⟨_, rfl⟩
  have hkb := kj_bd js (1 + 4 * N.pcs.length) HJE2.out js.length (Nat.le_refl _)
  rw [hkk] at hkb HCM
  have HKK := hide hkk
  have hl3 := cell_lt s0
  have hl4 := cell_lt r0
  clear hb5 HO4 HK4 hkk hjsm
  go_wp2_with fail
  refine HCM.out.mono ?_
  rintro e w6 ⟨rfl, hon6, hmk6⟩
  clear HCM
  have n3 : ¬ TS (.slice qa N.pcs.length qcap) (.slice ka N.jts.length kcap) js b3 := fun h => by have := HTS.out _ h; omega
  have n4 : ¬ TS (.slice qa N.pcs.length qcap) (.slice ka N.jts.length kcap) js b4 := fun h => by have := HTS.out _ h; omega
  have s0 := hon6.cell n3 s0
  have s1 := hon6.cell n3 s1
  have s2 := hon6.cell n3 s2
  have s3 := hon6.cell n3 s3
  have r0 := hon6.cell n4 r0
  have r1 := hon6.cell n4 r1
  have r2 := hon6.cell n4 r2
  have r3 := hon6.cell n4 r3
  have HB16 := hide (hon6.below HB15.out (fun x h => by have := HTS.out _ h; omega) HB15.out.size)
  have HMK := hide hmk6
  clear n3 n4 hon6 hmk6
  have HCH := hide (heldTold_any c l _ _ N.pcs.length js 1 w6 hpl (by omega) HJE2.out (by omega) (by omega) HMK.out)
  rw [HKK.out] at HCH
  have hl3 := cell_lt s0
  have hl4 := cell_lt r0
  go_wp2_with fail
  refine HCH.out.mono ?_
  rintro e w7 ⟨rfl, hb7⟩
  clear HCH
  have s0 := cell_later' hb7 s0
  have s1 := cell_later' hb7 s1
  have s2 := cell_later' hb7 s2
  have s3 := cell_later' hb7 s3
  have r0 := cell_later' hb7 r0
  have r1 := cell_later' hb7 r1
  have r2 := cell_later' hb7 r2
  have r3 := cell_later' hb7 r3
  have HB17 := hide (HB16.out.trans (hb7.mono HB16.out.size))
  have HMK7 := hide (HMK.out.later hb7)
  have HB7 := hide (HB1.out.trans (HB17.out.mono HB1.out.size))
  have HC7 := hide (HIM.out w7 (HM.out.later HB7.out) (cell_later' HB7.out HG.out))
  have hl3 := cell_lt s0
  have hl4 := cell_lt r0
  clear hb7 HMK
  go_wp2_with fail
  refine HC7.out.mono ?_
  intro e w8 h
  obtain ⟨ua, ucap, va, vcap, js8, rfl, _, _, _, _, hP8, hJ8, hb8⟩ := post_at h
  clear h HC7
  have hb9 := bS0 w8 (.cells #[.int .i64 c, .int .i64 l, .slice ua N.pcs.length ucap, .slice va N.jts.length vcap] 27)
  have hb79 := chnB hb8 hb9
  have s0 := cell_later' hb79 s0
  have s1 := cell_later' hb79 s1
  have s2 := cell_later' hb79 s2
  have s3 := cell_later' hb79 s3
  have r0 := cell_later' hb79 r0
  have r1 := cell_later' hb79 r1
  have r2 := cell_later' hb79 r2
  have r3 := cell_later' hb79 r3
  have v0 := new_cell w8 #[.int .i64 c, .int .i64 l, .slice ua N.pcs.length ucap, .slice va N.jts.length vcap] 27 0 _ rfl
  have v1 := new_cell w8 #[.int .i64 c, .int .i64 l, .slice ua N.pcs.length ucap, .slice va N.jts.length vcap] 27 1 _ rfl
  have v2 := new_cell w8 #[.int .i64 c, .int .i64 l, .slice ua N.pcs.length ucap, .slice va N.jts.length vcap] 27 2 _ rfl
  have v3 := new_cell w8 #[.int .i64 c, .int .i64 l, .slice ua N.pcs.length ucap, .slice va N.jts.length vcap] 27 3 _ rfl
  have HP9 := hide (hP8.later hb9)
  have HJ9 := hide (hJ8.later hb9)
  have HB19 := hide (HB17.out.trans (hb79.mono HB17.out.size))
  have HMK9 := hide (HMK7.out.later hb79)
  clear hP8 hJ8 hb8 hb9 hb79 HMK7
  go_upto_region 16 with fail
  generalize w8.alloc (.cells #[.int .i64 c, .int .i64 l, .slice ua N.pcs.length ucap, .slice va N.jts.length vcap] 27) = w9 at *
  have HCE := hide (eqTold_same c l ua pa va ja N ucap pcap vcap jcap w9 hpl hjl HJE.out HP9.out (HP.out.later HB19.out) HJ9.out (HJ.out.later HB19.out))
  have hl3 := cell_lt s0
  have hl4 := cell_lt r0
  have hl9 := cell_lt v0
  go_wp2_with fail
  refine HCE.out.mono ?_
  rintro e w10 ⟨rfl, hb10⟩
  clear HCE
  have r0 := cell_later' hb10 r0
  have r1 := cell_later' hb10 r1
  have r2 := cell_later' hb10 r2
  have r3 := cell_later' hb10 r3
  have HB110 := hide (HB19.out.trans (hb10.mono HB19.out.size))
  have HCH := hide (heldTold_any c l _ _ N.pcs.length js 1 w10 hpl (by omega) HJE2.out (by omega) (by omega) (HMK9.out.later hb10))
  rw [HKK.out] at HCH
  have hl4 := cell_lt r0
  clear hb10
  go_wp2_with fail
  refine HCH.out.mono ?_
  rintro e w11 ⟨rfl, hb11⟩
  have HB111 := hide (HB110.out.trans (hb11.mono HB110.out.size))
  have HBF := hide (HB1.out.trans (HB111.out.mono HB1.out.size))
  clear hb11 HCH
  go_wp2_with fail
  go_ret
  exact ⟨rfl, HBF.out⟩
end Go.Proofs.YtjagfeihmnagkaaGreatDoor
