/- spec.l4from. Own work. -/
import Derived.Test.YtldafgbhjpfboaaGreatMxBC
import Derived.Test.YtldafgbhjpfboaaGreatMxAG
import Derived.Test.YtldafgbhjpfboaaGreatMxAQ
import Derived.Deep.RegionHeld3
namespace Go.Proofs.YtldafgbhjpfboaaGreat
open Go.RowKit Go.Sort
set_option maxHeartbeats 8000000
set_option maxRecDepth 100000

theorem l4from_any (a a' : Option Addr) (N : Nt) (cap cap' : Nat) (q at' wy : Int) (w : World) (hright : netOk N = (0, 0)) (hn : N.pcs.length ≤ 9) (hl : N.jts.length ≤ 1048576) (hm : ∀ j ∈ N.jts, j.ends.length ≤ 1048576) (hs : spotP N q at' wy = true) (hP : PcsAt w a N.pcs) (hJ : JtsAt w a' N.jts) :
    Calls Tryz.prog 27 #[.agg #[.slice a N.pcs.length cap, .slice a' N.jts.length cap'], .agg #[.int .i64 q, .int .i64 at', .int .i64 wy]] w fun e w' =>
    ∃ (bB : Nat) (bl : List Cf), e = .returned (.slice (some ⟨bB, 0, none⟩) (2 * N.pcs.length) (2 * N.pcs.length)) ∧ w'.ownsRow w.heap.size 71 5 (.slice (some ⟨bB, 0, none⟩) (2 * N.pcs.length) (2 * N.pcs.length)) (2 * N.pcs.length) (cfCells bl) ∧
      (∀ p, p < 2 * N.pcs.length → (bestO (grN N hright) (q, wy) (roomP N q at' wy) (stepAt p) = none ∧ bl[p]? = some cN) ∨ ∃ i, bestO (grN N hright) (q, wy) (roomP N q at' wy) (stepAt p) = some i.y ∧ bl[p]? = some i) ∧ (∀ i ∈ bl, StRow w' i.z i.y.ss) ∧ Below w.heap.size w w' := by
  obtain ⟨iS, hiS, hzS0, hzS1, hzS2⟩ := info_parts info_StepC
  obtain ⟨iC, hiC, hzC0, hzC1, hzC2⟩ := info_parts infoCf
  have HIS := hide hiS
  have HS0 := hide hzS0
  have HS1 := hide hzS1
  have HS2 := hide hzS2
  have HIC := hide hiC
  have HC0 := hide hzC0
  have HC1 := hide hzC1
  have HC2 := hide hzC2
  have HP := hide hP
  have HJ := hide hJ
  have HR := hide hright
  have HS := hide hs
  have HM := hide hm
  have hrm : 0 ≤ roomP N q at' wy ∧ roomP N q at' wy ≤ 10000000 := by
    have h := hs
    simp only [spotP, inR, Bool.and_eq_true, decide_eq_true_eq] at h
    have hl := lenAt_pos hright q (by omega) (by omega)
    unfold roomP
    split <;> omega
  have h1n : 1 ≤ N.pcs.length := by
    have a3 := (right_facts hright).1
    simp only [sizeBad, Bool.or_eq_false_iff, decide_eq_false_iff_not] at a3
    omega
  generalize hG : grN N hright = G
  have HG := hide hG
  have HGN := hide (show G.n = N.pcs.length by rw [← hG]; rfl)
  have HGX := hide (show ∀ e, G.nx e = nxP N e from fun e => by rw [← hG]; rfl)
  have HGL := hide (show ∀ p, G.len p = lenAt N p from fun p => by rw [← hG]; rfl)
  generalize hn2 : 2 * N.pcs.length = n2
  have hw2 : IntKind.i64.wrap (2 * (N.pcs.length : Int)) = (n2 : Int) := by rw [IntKind.wrap_i64]; omega
  have hmk := run_make_rows (P := Tryz.prog) 73 71 _ _ _ Tryz.underlying73 infoCf n2 (by omega) (by omega)
  have hmk' := run_make_rows (P := Tryz.prog) 107 4 _ _ _ Tryz.underlying107 infoBool n2 (by omega) (by omega)
  clear hiS hzS0 hzS1 hzS2 hiC hzC0 hzC1 hzC2 hP hJ hs hG hm
  go_enter Tryz.func27, Tryz.ntmps27
  have HF0 : Hid (FrI w ((((w.alloc (.cells #[.slice a N.pcs.length cap, .slice a' N.jts.length cap'] 26)).alloc (.cells #[.int .i64 q, .int .i64 at', .int .i64 wy] 29)).alloc (.cells (madeCells #[.int .i64 0, .int .i64 0, .int .i64 0, .int .i64 0, .slice none 0 0] (n2 * 5)) 71)).alloc (.cells (madeCells #[.bool false] n2) 4)) (.slice a N.pcs.length cap) (.slice a' N.jts.length cap') n2 (w.heap.size + 1 + 1) (w.heap.size + 1 + 1 + 1) (List.replicate n2 c0) (List.replicate n2 false) (.slice none 0 0) [] (.slice none 0 0) []) := by
    refine ⟨by simp [go_sem], by simp [go_sem], ((((Below.refl _ _).alloc (Nat.le_refl _) _).alloc (by simp) _).alloc (by simp; omega) _).alloc (by simp; omega) _, ?_, ?_, World.ownsRow_nil _ _ _ _, World.ownsRow_nil _ _ _ _, by simp [Value.ownBlock], by simp [Value.ownBlock], fun g e => by simp [Value.ownBlock] at e, fun i hi => ?_⟩
    · have h := (World.ownsRow_lit (base := w.heap.size + 2) (e := 71) (size := 5) ((w.alloc (.cells #[.slice a N.pcs.length cap, .slice a' N.jts.length cap'] 26)).alloc (.cells #[.int .i64 q, .int .i64 at', .int .i64 wy] 29)) (madeCells #[.int .i64 0, .int .i64 0, .int .i64 0, .int .i64 0, .slice none 0 0] (n2 * 5)) n2 (by simp) (by unfold maxLen; omega) (by simp [madeCells])).alloc (.cells (madeCells #[.bool false] n2) 4)
      rw [made_zero]
      simpa only [World.size_alloc] using h
    · have h := World.ownsRow_lit (base := w.heap.size + 2) (e := 4) (size := 1) (((w.alloc (.cells #[.slice a N.pcs.length cap, .slice a' N.jts.length cap'] 26)).alloc (.cells #[.int .i64 q, .int .i64 at', .int .i64 wy] 29)).alloc (.cells (madeCells #[.int .i64 0, .int .i64 0, .int .i64 0, .int .i64 0, .slice none 0 0] (n2 * 5)) 71)) (madeCells #[.bool false] n2) n2 (by simp) (by unfold maxLen; omega) (by simp [madeCells])
      rw [made_false]
      simpa only [World.size_alloc] using h
    · rcases hi with hi | hi | hi
      · rw [(List.mem_replicate.1 hi).2]
        exact ⟨fun k hk => by simp [c0] at hk, fun b o e => by cases e⟩
      · simp at hi
      · simp at hi
  go_upto_region 3 with fail
  have s0 : ((((w.alloc (.cells #[.slice a N.pcs.length cap, .slice a' N.jts.length cap'] 26)).alloc (.cells #[.int .i64 q, .int .i64 at', .int .i64 wy] 29)).alloc (.cells (madeCells #[.int .i64 0, .int .i64 0, .int .i64 0, .int .i64 0, .slice none 0 0] (n2 * 5)) 71)).alloc (.cells (madeCells #[.bool false] n2) 4)).cell? ⟨w.heap.size + 1, 0, none⟩ = some (.int .i64 q) := by simp [go_sem]
  have s1 : ((((w.alloc (.cells #[.slice a N.pcs.length cap, .slice a' N.jts.length cap'] 26)).alloc (.cells #[.int .i64 q, .int .i64 at', .int .i64 wy] 29)).alloc (.cells (madeCells #[.int .i64 0, .int .i64 0, .int .i64 0, .int .i64 0, .slice none 0 0] (n2 * 5)) 71)).alloc (.cells (madeCells #[.bool false] n2) 4)).cell? ⟨w.heap.size + 1, 1, none⟩ = some (.int .i64 at') := by simp [go_sem]
  have s2 : ((((w.alloc (.cells #[.slice a N.pcs.length cap, .slice a' N.jts.length cap'] 26)).alloc (.cells #[.int .i64 q, .int .i64 at', .int .i64 wy] 29)).alloc (.cells (madeCells #[.int .i64 0, .int .i64 0, .int .i64 0, .int .i64 0, .slice none 0 0] (n2 * 5)) 71)).alloc (.cells (madeCells #[.bool false] n2) 4)).cell? ⟨w.heap.size + 1, 2, none⟩ = some (.int .i64 wy) := by simp [go_sem]
  generalize ((((w.alloc (.cells #[.slice a N.pcs.length cap, .slice a' N.jts.length cap'] 26)).alloc (.cells #[.int .i64 q, .int .i64 at', .int .i64 wy] 29)).alloc (.cells (madeCells #[.int .i64 0, .int .i64 0, .int .i64 0, .int .i64 0, .slice none 0 0] (n2 * 5)) 71)).alloc (.cells (madeCells #[.bool false] n2) 4)) = w1 at *
  clear hmk hmk'
  have h1 : Below w1.heap.size w1 w1.drew := (Below.refl _ _).drew
  have hsl := cell_lt s0
  have hlo := HF0.out.lo
  go_cut [7] from 20 to 145 (fun s7 wx => L1 N G (q, wy) (roomP N q at' wy) w wx (.slice a N.pcs.length cap) (.slice a' N.jts.length cap') n2 (w.heap.size + 1 + 1) (w.heap.size + 1 + 1 + 1) s7 (2 * G.n + 1))
  case first =>
    go_region_law (first
      | (go_simp; go_at_call 26; refine (l4step_any _ _ _ _).mono ?_; rintro e wS ⟨rfl, hbS⟩; have HBS := hide (h1.trans hbS); have r0 := cell_later' HBS.out s0; have r1 := cell_later' HBS.out s1; have r2 := cell_later' HBS.out s2; have hSl := HBS.out.size; have hlS := cell_lt r0; clear hbS))
    all_goals
      have hA := (bS (w := wS) (.cells #[.int .i64 q, .int .i64 wy] 37)).alloc (by simp) (.cells #[.int .i64 q, .int .i64 at', .int .i64 wy, .int .i64 0, .slice (some ⟨wS.heap.size, 0, none⟩) 1 1] 71)
      have HF := hide (HF0.out.later (HBS.out.trans (hA.mono HBS.out.size)))
      have HX : Hid (FrI w ((wS.alloc (.cells #[.int .i64 q, .int .i64 wy] 37)).alloc (.cells #[.int .i64 q, .int .i64 at', .int .i64 wy, .int .i64 0, .slice (some ⟨wS.heap.size, 0, none⟩) 1 1] 71)) (.slice a N.pcs.length cap) (.slice a' N.jts.length cap') n2 (w.heap.size + 1 + 1) (w.heap.size + 1 + 1 + 1) (List.replicate n2 c0) (List.replicate n2 false) (.slice (some ⟨wS.heap.size + 1, 0, none⟩) 1 1) [⟨⟨0, [(q, wy)]⟩, at', some ⟨wS.heap.size, 0, none⟩, 1⟩] (.slice none 0 0) []) := by
        refine HF.out.setLine ?_ (World.ownsRow_nil _ _ _ _) (show some (wS.heap.size + 1) ≠ some (w.heap.size + 1 + 1) from some_ne (by omega)) (by simp [Value.ownBlock]) (fun g e => by simp [Value.ownBlock] at e) (fun i hi => ?_)
        · have h := World.ownsRow_lit (base := w.heap.size + 2) (e := 71) (size := 5) (wS.alloc (.cells #[.int .i64 q, .int .i64 wy] 37)) #[.int .i64 q, .int .i64 at', .int .i64 wy, .int .i64 0, .slice (some ⟨wS.heap.size, 0, none⟩) 1 1] 1 (by simp; omega) (by unfold maxLen; omega) (by simp)
          simp only [World.size_alloc] at h
          exact h
        · rcases hi with hi | hi
          · rw [List.mem_singleton.1 hi]
            refine StRow.later ⟨one_step' wS q wy, fun b o e => ?_⟩ (bS _)
            obtain ⟨rfl, rfl⟩ : wS.heap.size = b ∧ 0 = o := by simpa using e
            exact ⟨_, _, heap_alloc_new wS _⟩
          · simp at hi
      have HC : Hid (CfR N G (roomP N q at' wy) ⟨⟨0, [(q, wy)]⟩, at', some ⟨wS.heap.size, 0, none⟩, 1⟩) := ⟨HS.out, rfl⟩
      go_wp2_with fail
      go_meet
      case rel => exact ⟨0, fun _ => none, _, _, _, round_start, HX.out, bestR_start n2, (fun i hi => by rw [List.mem_singleton.1 hi]; exact HC.out), by simp, by omega⟩
  case rest =>
    rename World => w2
    have HL1 := hide hcut
    clear hcut s0 s1 s2 h1 hsl hlo HF0
    go_wp2_with fail
    go_loopg [7, 8, 10, 11, 12, 14, 15, 17, 18] (2 * G.n + 1) (fun gk s7 _ _ _ _ _ _ _ _ wr => L1 N G (q, wy) (roomP N q at' wy) w wr (.slice a N.pcs.length cap) (.slice a' N.jts.length cap') n2 (w.heap.size + 1 + 1) (w.heap.size + 1 + 1 + 1) s7 gk)
    case atStart => exact HL1.out
    case round =>
      obtain ⟨k, best, bl, kl, line, hRI, hFI, hBR, hCF, hll, hgk⟩ := hrel
      obtain ⟨z, cl, rfl, _⟩ := cfs_form hFI.ol
      have HRI := hide hRI
      have HFI := hide hFI
      have HBR := hide hBR
      have HCF := hide hCF
      clear hRI hFI hBR hCF HL1
      by_cases h0 : line.length = 0
      · have HE := hide (show ∀ t, best t = bestO G (q, wy) (roomP N q at' wy) t from fun t => round_best hrm.1 (by have h := HRI.out; rw [List.eq_nil_of_length_eq_zero h0] at h; exact h) t)
        rw [h0]
        clear h0 hll hgk HRI HCF
        go_wp2_with fail
        go_loopw [19, 131] (fun _ i wx => ∃ (p : Nat) (bl' : List Cf), p ≤ n2 ∧ i = .int .i64 p ∧ Hid (FrI w wx (.slice a N.pcs.length cap) (.slice a' N.jts.length cap') n2 (w.heap.size + 1 + 1) (w.heap.size + 1 + 1 + 1) bl' kl (.slice z line.length cl) line (.slice none 0 0) []) ∧ Hid (EndR best bl bl' n2 p)) (fun _ i _ => n2 - (intOf i).toNat)
        case atStart => exact ⟨0, bl, Nat.zero_le _, rfl, HFI, EndR.start _ _ _⟩
        case round =>
          obtain ⟨p, bl', hp, rfl, HFX, HER⟩ := hrel
          clear HFI
          by_cases hlt : p < n2
          · have hpi : (p : Int) < (n2 : Int) := by omega
            rcases HBR.out p hlt with ⟨hb, hb0, hk⟩ | ⟨i, hb, hi, hk⟩
            · have HF2 := hide (HFX.out.far (p := p) (((HER.out p hlt).2 (Nat.le_refl _)).trans hb0))
              have HE2 := hide (HER.out.none hlt HFX.out.len.1 hb)
              have ck := HFX.out.kAt hk
              have hbc := (cfs_at HFX.out.ob (((HER.out p hlt).2 (Nat.le_refl _)).trans hb0)).2.2.2.1
              have hfz := HFX.out.ob.frozenAt (p * 5 + 3)
              clear hb hb0 hk
              go_wp2_with fail
              go_roundw
              case rel => exact ⟨p + 1, bl'.set p cN, by omega, by go_num, HF2, HE2⟩
              case measure => simp [intOf]; omega
            · have ck := HFX.out.kAt hk
              have HE2 := hide (HER.out.some hlt hb hi)
              clear hb hi hk
              go_wp2_with fail
              go_roundw
              case rel => exact ⟨p + 1, bl', by omega, by go_num, HFX, HE2⟩
              case measure => simp [intOf]; omega
          · have hpe : p = n2 := by omega
            subst hpe
            go_wp2_with fail
            go_ret
            refine ⟨_, bl', rfl, owns_low HFX.out.ob (by omega), fun r hr => ?_, fun i hi => HFX.out.rs i (.inl hi), HFX.out.below⟩
            rw [← HE.out]
            exact (HER.out r hr).1 hr
      · have hk18 : k ≤ 2 * G.n := round_few HRI.out (by intro e; apply h0; have := congrArg List.length e; simpa using this)
        have hGn := HGN.out
        have h2k : line.length ≤ 262144 := Nat.le_trans hll (Nat.pow_le_pow_right (by omega) (show k ≤ 18 by omega))
        have h0i : (0 : Int) < (line.length : Int) := by omega
        have h0n : 0 < line.length := by omega
        have HSTART : Hid (L23 N G (roomP N q at' wy) w wr (.slice a N.pcs.length cap) (.slice a' N.jts.length cap') n2 (w.heap.size + 1 + 1) (w.heap.size + 1 + 1 + 1) (.slice z line.length cl) line best (cands G (roomP N q at' wy) ((line.map Cf.y).take 0)) (.slice none 0 0)) := ⟨bl, kl, [], HFI.out, HBR.out, rfl, (fun i hi => by simp at hi), by simp⟩
        clear h0
        go_wp2_with fail
        go_loopw [8, 10, 11, 12, 14, 15, 17, 18, 39] (fun s8 _ _ _ _ _ _ _ ix wx => ∃ (j : Nat), j ≤ line.length ∧ ix = .int .i64 j ∧ Hid (L23 N G (roomP N q at' wy) w wx (.slice a N.pcs.length cap) (.slice a' N.jts.length cap') n2 (w.heap.size + 1 + 1) (w.heap.size + 1 + 1 + 1) (.slice z line.length cl) line best (cands G (roomP N q at' wy) ((line.map Cf.y).take j)) s8)) (fun _ _ _ _ _ _ _ _ ix _ => line.length - (intOf ix).toNat)
        case atStart => exact ⟨0, Nat.zero_le _, rfl, HSTART⟩
        case round =>
          obtain ⟨j, hj, rfl, HL2⟩ := hrel
          clear HFI HBR HSTART
          rename World => wx
          by_cases hlt : j < line.length
          · obtain ⟨bl2, kl2, nx, hF, hB, hN, hC, hL⟩ := HL2.out
            obtain ⟨g, rfl, e0, e1, e2, e3, e4⟩ := cfs_rd hF.ol hlt
            have hCj := HCF.out line[j] (List.getElem_mem hlt)
            have hWj := HRI.out.way line[j].y (List.mem_map_of_mem (List.getElem_mem hlt))
            have HCS := hide (cands_succ (G := G) (room := roomP N q at' wy) hlt)
            have HIN := hide (List.getElem_mem hlt)
            have hgl := cell_lt e0
            have hji : (j : Int) < (line.length : Int) := by omega
            have HLO := hide (fun g' e' => (hF.on.lt g' e').2)
            have hbk := hF.lo
            have HL2' := hide HL2.out
            clear hF hB hN hC hL HL2
            generalize line[j] = ci at *
            obtain ⟨⟨cf, cs⟩, ca, cz, cc⟩ := ci
            obtain ⟨t1, t2, hT⟩ : ∃ t1 t2, lastS ⟨cf, cs⟩ = (t1, t2) := ⟨_, _, rfl⟩
            have hC1 := hCj.spot
            have hC2 := hCj.room
            dsimp only at *
            rw [hT] at e0 e2 hC1 hC2 HCS
            dsimp only at e0 e2 hC1 hC2
            have HC2' := hide hC2
            have hst : stepOk N.pcs.length (t1, t2) = true := by
              have h := hC1
              simp only [spotP, inR, Bool.and_eq_true, decide_eq_true_eq, Bool.or_eq_true, beq_iff_eq] at h
              simp only [stepOk, inR, Bool.and_eq_true, decide_eq_true_eq, Bool.or_eq_true, beq_iff_eq]
              omega
            have hca : 0 ≤ ca ∧ ca ≤ lenAt N t1 ∧ 0 ≤ t1 ∧ t1 < N.pcs.length := by
              have h := hC1
              simp only [spotP, inR, Bool.and_eq_true, decide_eq_true_eq, Bool.or_eq_true, beq_iff_eq] at h
              omega
            obtain ⟨kq, rfl⟩ := Int.eq_ofNat_of_zero_le hca.2.2.1
            have hkq : kq < N.pcs.length := by omega
            have hlen := lenAt_pos HR.out kq (by omega) (by omega)
            have HLN := hide (lenAt_nat N kq hkq)
            rw [HLN.out] at hca hlen
            have hfar := hWj.1.far_le ⟨hrm.1, hrm.2⟩
            have HCL := hide hWj.2
            have hcl : cs.length ≤ 19 := by have := HCL.out; omega
            dsimp only at hfar
            obtain ⟨hx, hy, hH⟩ : ∃ hx hy, headP kq t2 = (hx, hy) := ⟨_, _, rfl⟩
            have HE1 := hide (show endOk N.pcs.length (hx, hy) = true by have := (stepOk_ends hst).1; dsimp only at this; rw [hH] at this; exact this)
            have HH := hide hH
            have hA8 := bS (w := wx) (.cells #[.int .i64 kq, .int .i64 ca, .int .i64 t2, .int .i64 cf, .slice cz cs.length cc] 71)
            have HL8 := hide (HL2'.out.later hA8)
            have y0 := new_cell wx #[.int .i64 kq, .int .i64 ca, .int .i64 t2, .int .i64 cf, .slice cz cs.length cc] 71 0 (.int .i64 kq) rfl
            have y1 := new_cell wx #[.int .i64 kq, .int .i64 ca, .int .i64 t2, .int .i64 cf, .slice cz cs.length cc] 71 1 (.int .i64 ca) rfl
            have y2 := new_cell wx #[.int .i64 kq, .int .i64 ca, .int .i64 t2, .int .i64 cf, .slice cz cs.length cc] 71 2 (.int .i64 t2) rfl
            have y3 := new_cell wx #[.int .i64 kq, .int .i64 ca, .int .i64 t2, .int .i64 cf, .slice cz cs.length cc] 71 3 (.int .i64 cf) rfl
            have y4 := new_cell wx #[.int .i64 kq, .int .i64 ca, .int .i64 t2, .int .i64 cf, .slice cz cs.length cc] 71 4 (.slice cz cs.length cc) rfl
            clear hCj hWj hC1 hC2 hst hH HL2' hA8
            go_upto_region 9 with fail
            clear e0 e1 e2 e3 e4
            generalize wx.alloc (.cells #[.int .i64 kq, .int .i64 ca, .int .i64 t2, .int .i64 cf, .slice cz cs.length cc] 71) = w8 at *
            generalize wx.heap.size = bC at *
            obtain ⟨bl8, kl8, nx8, hF8, _⟩ := id HL8.out
            have n0 := hF8.n0
            have n1 := hF8.n1
            have HB8 := hide hF8.below
            have h8 : Below w8.heap.size w8 w8.drew := (Below.refl _ _).drew
            have hn8 := cell_lt n0
            have hy8 := cell_lt y0
            clear hF8
            go_cut [11, 12, 39] from 39 to 127 (fun s11 s12 s39 wz => s39 = .int .i64 j ∧ ∃ (ji ii : Nat), s11 = .int .i64 ji ∧ s12 = .int .i64 ii ∧ At N.jts (hx, hy) ji ii ∧ Hid (Below w8.heap.size w8 wz))
            case first =>
              go_region_law (first
                | (go_simp; go_at_call 36; refine (l3head_at HH.out _).mono ?_; rintro e wS ⟨rfl, hbS⟩; have HBS := hide (h8.trans hbS); have m0 := cell_later' HBS.out n0; have m1 := cell_later' HBS.out n1; clear hbS)
                | (go_simp; go_at_call 49; refine (l1at_right _ _ N _ _ hx hy _ hl HM.out HR.out HE1.out (HJ.out.later (HB8.out.trans (HBS.out.mono HB8.out.size)))).mono ?_; rintro e wT ⟨ji, ii, rfl, hat, hbT⟩; have HBT := hide (HBS.out.trans (hbT.mono HBS.out.size)); have HAT := hide hat; clear hbT hat))
              all_goals
                go_wp2_with fail
                go_meet
                case rel => exact ⟨rfl, ji, ii, rfl, rfl, HAT.out, HBT⟩
            case rest =>
              obtain ⟨rfl, ji, ii, rfl, rfl, hat, HB9⟩ := hcut
              rename World => w9
              have HL9 := hide (HL8.out.later HB9.out)
              replace n0 := cell_later' HB9.out n0
              replace n1 := cell_later' HB9.out n1
              replace y0 := cell_later' HB9.out y0
              replace y1 := cell_later' HB9.out y1
              replace y2 := cell_later' HB9.out y2
              replace y3 := cell_later' HB9.out y3
              replace y4 := cell_later' HB9.out y4
              have HB9' := hide (HB8.out.trans (HB9.out.mono HB8.out.size))
              have hs9 := HB9.out.size
              have HAT := hide hat
              obtain ⟨hjl, hil, _⟩ := hat
              have H3 := hide (show jb3 N.pcs.length N.jts[ji] = false by rw [← jtBad3_jb3 hjl]; exact (right_facts HR.out).2.2.1 ji hjl)
              have HNX := hide (show G.nx (headP ((kq : Int), t2).1 ((kq : Int), t2).2) = acr N.jts[ji] ii by dsimp only; rw [HGX.out, HH.out]; exact nx_at HR.out HAT.out hjl)
              obtain ⟨jb, jo, ea, ec, rfl, k0, kk1, k2, hEnds⟩ := (HJ.out.later HB9'.out) ji hjl
              have HEND := hide hEnds
              have hjii : (ji : Int) < (N.jts.length : Int) := by omega
              have hjb := cell_lt k0
              have hnb := cell_lt n0
              clear hEnds HB9 HL8 HB8
              go_wp2_with fail
              refine (l1across_any N.pcs.length N.jts[ji] ea ec ii _ H3.out hil HEND.out).mono ?_
              rintro e w10 ⟨v, rfl, hNE, hb10⟩
              obtain ⟨za, zc2, rfl, hEA, hrow⟩ := hNE
              have HEA := hide hEA
              have HROW := hide (show (acr N.jts[ji] ii).length = 0 ∨ ∃ b, w9.heap.size ≤ b ∧ za = some ⟨b, 0, none⟩ from hrow.imp id (fun ⟨b, h1, h2, _⟩ => ⟨b, h1, h2⟩))
              have HL10 := hide (HL9.out.later hb10)
              replace y0 := cell_later' hb10 y0
              replace y1 := cell_later' hb10 y1
              replace y2 := cell_later' hb10 y2
              replace y3 := cell_later' hb10 y3
              replace y4 := cell_later' hb10 y4
              have hs10 := hb10.size
              have hal := acr_len N.jts[ji] ii
              clear hb10 hEA hrow k0 kk1 k2 HEND HB9' HL9 n0 n1
              generalize acr N.jts[ji] ii = L at *
              have HSTART : Hid (L23 N G (roomP N q at' wy) w w10 (.slice a N.pcs.length cap) (.slice (some ⟨jb, jo, none⟩) N.jts.length cap') n2 (w.heap.size + 1 + 1) (w.heap.size + 1 + 1 + 1) (.slice (some ⟨g, 0, none⟩) line.length cl) line best (cands G (roomP N q at' wy) ((line.map Cf.y).take j) ++ (candsOf G (roomP N q at' wy) ⟨cf, cs⟩ (kq, t2)).take 0) u8) := by
                rw [List.take_zero, List.append_nil]
                exact HL10.out
              clear HL10
              go_wp2_with fail
              go_loopw [8, 14, 15, 17, 18, 59] (fun s8 _ _ _ _ ix wi => ∃ (i : Nat), i ≤ L.length ∧ ix = .int .i64 i ∧ Hid (L23 N G (roomP N q at' wy) w wi (.slice a N.pcs.length cap) (.slice (some ⟨jb, jo, none⟩) N.jts.length cap') n2 (w.heap.size + 1 + 1) (w.heap.size + 1 + 1 + 1) (.slice (some ⟨g, 0, none⟩) line.length cl) line best (cands G (roomP N q at' wy) ((line.map Cf.y).take j) ++ (candsOf G (roomP N q at' wy) ⟨cf, cs⟩ (kq, t2)).take i) s8) ∧ Hid (Keep3 bC w10 wi s8)) (fun _ _ _ _ _ ix _ => L.length - (intOf ix).toNat)
              case atStart => exact ⟨0, Nat.zero_le _, rfl, HSTART, Keep3.start HLO.out⟩
              case round =>
                obtain ⟨i, hi, rfl, HL3, HK3⟩ := hrel
                rename World => wi
                clear HSTART
                by_cases hilt : i < L.length
                · obtain ⟨bl3, kl3, nx3, hF3, hB3, hN3, hC3, hLn3⟩ := HL3.out
                  obtain ⟨zb, hzb, rfl⟩ := HROW.out.resolve_left (by omega)
                  have hzM : ∀ b o, (some ⟨zb, 0, none⟩ : Option Addr) = some ⟨b, o, none⟩ → bC ≤ b := fun b o e => by
                    obtain ⟨h1, _⟩ : zb = b ∧ 0 = o := by simpa using e
                    omega
                  obtain ⟨zb', zo', hzz, e0, e1⟩ := (HK3.out.ends hzM HEA.out) i hilt
                  obtain ⟨rfl, rfl⟩ : zb = zb' ∧ 0 = zo' := by simpa using hzz
                  simp only [Nat.zero_add] at e0 e1
                  have hii : (i : Int) < (L.length : Int) := by omega
                  have HTK := hide (cands_take (G := G) (room := roomP N q at' wy) (y := ⟨cf, cs⟩) (t := ((kq : Int), t2)) HNX.out hilt)
                  have hEO : endOk N.pcs.length L[i] = true := by
                    have h := G.ok (headP ((kq : Int), t2).1 ((kq : Int), t2).2) L[i] (by rw [HNX.out]; exact List.getElem_mem hilt)
                    rw [HGN.out] at h
                    exact h
                  replace y0 := HK3.out.cell (Nat.le_refl _) y0
                  replace y1 := HK3.out.cell (Nat.le_refl _) y1
                  replace y2 := HK3.out.cell (Nat.le_refl _) y2
                  replace y3 := HK3.out.cell (Nat.le_refl _) y3
                  replace y4 := HK3.out.cell (Nat.le_refl _) y4
                  have HRSC := hide (hF3.rs _ (.inr (.inl HIN.out)))
                  have HF3 := hide hF3
                  have HB3 := hide hB3
                  have HN3 := hide hN3
                  have HC3 := hide hC3
                  have hcn := cands_len (G := G) (room := roomP N q at' wy) (fun e => by rw [HGX.out]; exact nxP_len N e) ((line.map Cf.y).take j)
                  have hnx3 : nx3.length ≤ 600000 := by
                    have h1 : ((candsOf G (roomP N q at' wy) ⟨cf, cs⟩ ((kq : Int), t2)).take i).length ≤ i := by simp; omega
                    rw [List.length_append] at hLn3
                    rw [List.length_take, List.length_map] at hcn
                    omega
                  have HLN3 := hide hLn3
                  clear hzz hF3 hB3 hN3 hC3 hLn3 hcn HL3
                  generalize L[i] = ee at *
                  obtain ⟨ep, sd⟩ := ee
                  dsimp only at e0 e1 hEO
                  have hep : 0 ≤ ep ∧ ep < N.pcs.length ∧ 0 ≤ sd ∧ sd ≤ 1 := by
                    have h := hEO
                    simp only [endOk, inR, Bool.and_eq_true, decide_eq_true_eq] at h
                    omega
                  obtain ⟨ek, rfl⟩ := Int.eq_ofNat_of_zero_le hep.1
                  have hek : ek < N.pcs.length := by omega
                  obtain ⟨p1, p2, p3, hEN⟩ : ∃ p1 p2 p3, enterP N (ek, sd) = (p1, p2, p3) := ⟨_, _, _, rfl⟩
                  have HEN := hide hEN
                  have HEO := hide hEO
                  have hzl := cell_lt e0
                  have hA12 := bS (w := wi) (.cells #[.int .i64 ek, .int .i64 sd] 89)
                  have q0 := new_cell wi #[.int .i64 ek, .int .i64 sd] 89 0 (.int .i64 ek) rfl
                  have q1 := new_cell wi #[.int .i64 ek, .int .i64 sd] 89 1 (.int .i64 sd) rfl
                  have HF12 := hide (HF3.out.later hA12)
                  have HK12 := hide (HK3.out.below hA12)
                  have HRS12 := hide (HRSC.out.later hA12)
                  replace y0 := cell_later' hA12 y0
                  replace y1 := cell_later' hA12 y1
                  replace y2 := cell_later' hA12 y2
                  replace y3 := cell_later' hA12 y3
                  replace y4 := cell_later' hA12 y4
                  clear hEN hEO hA12 HF3 HK3 HRSC
                  go_upto_region 13 with fail
                  clear e0 e1
                  generalize wi.alloc (.cells #[.int .i64 ek, .int .i64 sd] 89) = w12 at *
                  generalize wi.heap.size = bE at *
                  have n0 := HF12.out.n0
                  have n1 := HF12.out.n1
                  have h12 : Below w12.heap.size w12 w12.drew := (Below.refl _ _).drew
                  have hn12 := cell_lt n0
                  have hy12 := cell_lt y0
                  have hq12 := cell_lt q0
                  have hrm2 : 0 ≤ roomP N kq ca t2 ∧ roomP N kq ca t2 ≤ 10000000 := by
                    unfold roomP
                    rw [HLN.out]
                    split <;> omega
                  have hwr : IntKind.i64.wrap (cf + roomP N kq ca t2) = cf + roomP N kq ca t2 := by
                    rw [IntKind.wrap_i64]
                    omega
                  go_cut [15, 59] from 59 to 126 (fun s15 s59 wz => s59 = .int .i64 i ∧ ∃ bX, s15 = .pointer (some ⟨bX, 0, none⟩) ∧ Hid (XB w12 wz bX p1 p2 p3 (cf + roomP N kq ca t2) (.slice none 0 0) []))
                  case first =>
                    have HPS := hide (fun wx (h : S13 w12 wx w.heap.size bC bE (.slice a N.pcs.length cap) (.slice (some ⟨jb, jo, none⟩) N.jts.length cap') kq ca t2 cf ek sd) => HP.out.later (HF12.out.below.trans ((held13 h).mono HF12.out.below.size)))
                    have HS13 : Hid (S13 w12 w12 w.heap.size bC bE (.slice a N.pcs.length cap) (.slice (some ⟨jb, jo, none⟩) N.jts.length cap') kq ca t2 cf ek sd) := ⟨⟨n0, n1, y0, y1, y2, y3, q0, q1⟩, Below.refl _ _⟩
                    have HK1 := hide (keep13 (bDr w12) HS13.out)
                    have HK2 := hide (keep13 (bSd w12 (.cells #[.int .i64 0, .int .i64 0, .int .i64 0, .int .i64 0, .slice none 0 0] 71)) HS13.out)
                    clear n0 n1 y0 y1 y2 y3 y4 q0 q1 HCS HIN HCF HRI HLO HROW HEA HNX HTK HRS12 HB3 HN3 HC3 HLN3 HK12 HAT H3 HH HE1 HF12 HJ HM HS HGL HGX HEO HC2' HCL
                    go_region_held3 (fun wx => S13 w12 wx w.heap.size bC bE (.slice a N.pcs.length cap) (.slice (some ⟨jb, jo, none⟩) N.jts.length cap') kq ca t2 cf ek sd)
                      (first
                        | (with_reducible exact HK1.out)
                        | (with_reducible exact HK2.out)
                        | (with_reducible exact HGT.out)
                        | (with_reducible exact HGTa.out)
                        | (with_reducible exact HGTf.out)
                        | (with_reducible exact HGTp.out)
                        | (with_reducible exact HGS.out)
                        | (with_reducible exact HGSa.out))
                      (first
                        | (go_at_call 37; refine (l3enter_at _ _ N _ _ ek sd _ HEN.out hek (HPS.out _ (by assumption))).mono ?_; rintro e wS ⟨rfl, hbS⟩; have HGS : Hid (S13 w12 wS w.heap.size bC bE (.slice a N.pcs.length cap) (.slice (some ⟨jb, jo, none⟩) N.jts.length cap') kq ca t2 cf ek sd) := keep13 hbS (by assumption); have HGSa := hide (keep13 (bS (w := wS) (.cells #[.int .i64 0, .int .i64 0, .int .i64 0, .int .i64 0, .slice none 0 0] 71)) HGS.out); have sS : w12.heap.size ≤ wS.heap.size := (held13 HGS.out).size; (first | (with_reducible (have hC : Below w12.drew.heap.size w12.drew wS := hbS)) | (have HZS : Hid (Zero5 wS w12.heap.size) := zero5_of hbS)); clear hbS)
                        | (go_at_call 38; refine (l3room_any _ _ N _ _ kq ca t2 _ hkq (by omega) (by omega) (HPS.out _ (by assumption))).mono ?_; rintro e wT ⟨rfl, hbT⟩; have HGT : Hid (S13 w12 wT w.heap.size bC bE (.slice a N.pcs.length cap) (.slice (some ⟨jb, jo, none⟩) N.jts.length cap') kq ca t2 cf ek sd) := keep13 hbT (by assumption); have HGTa := hide (keep13 (bS (w := wT) (.cells #[.int .i64 0, .int .i64 0, .int .i64 0, .int .i64 0, .slice none 0 0] 71)) HGT.out); have HGTf := hide (keep13 (bS (w := wT) (.cells #[.int .i64 p1, .int .i64 p2, .int .i64 p3, .int .i64 (cf + roomP N kq ca t2), .slice none 0 0] 71)) HGT.out); have sT : w12.heap.size ≤ wT.heap.size := (held13 HGT.out).size; (first | ((with_reducible (have hD : Below wS.heap.size wS wT := hbT)); (first | (have HZT := hide (HZS.out.later hbT); have HGTp := hide (put13 (b := w12.heap.size) (by omega) hn12 hy12 hq12 HGT.out (.int .i64 p1) (.int .i64 p2) (.int .i64 p3) (.int .i64 (cf + roomP N kq ca t2)) (.slice none 0 0)); obtain ⟨⟨a0, a1, a2, a3, a4⟩, fz⟩ := HZT.out; have f0 := fz 0; have f1 := fz 1; have f2 := fz 2; have f3 := fz 3; have f4 := fz 4; have hal0 := cell_lt a0; clear fz) | skip)) | (have HZT : Hid (Zero5 wT wS.heap.size) := zero5_of' hbT; have HGTp := hide (put13 (b := wS.heap.size) (by omega) hn12 hy12 hq12 HGT.out (.int .i64 p1) (.int .i64 p2) (.int .i64 p3) (.int .i64 (cf + roomP N kq ca t2)) (.slice none 0 0)); obtain ⟨⟨a0, a1, a2, a3, a4⟩, fz⟩ := HZT.out; have f0 := fz 0; have f1 := fz 1; have f2 := fz 2; have f3 := fz 3; have f4 := fz 4; have hal0 := cell_lt a0; clear fz)); clear hbT))
                    all_goals
                      first
                        | (have HXB := hide (XB.fill (held13 HGT.out) (by omega) HZT.out p1 p2 p3 (cf + roomP N kq ca t2)); go_wp2_with fail; go_meet; (case rel => exact ⟨rfl, _, rfl, HXB⟩))
                        | (have HXB : Hid (XB w12 (wT.alloc (.cells #[.int .i64 p1, .int .i64 p2, .int .i64 p3, .int .i64 (cf + roomP N kq ca t2), .slice none 0 0] 71)) wT.heap.size p1 p2 p3 (cf + roomP N kq ca t2) (.slice none 0 0) []) := ⟨(held13 HGT.out).alloc sT _, sT, new_cell wT _ _ 0 _ rfl, new_cell wT _ _ 1 _ rfl, new_cell wT _ _ 2 _ rfl, new_cell wT _ _ 3 _ rfl, new_cell wT _ _ 4 _ rfl, by simp [go_sem], World.ownsRow_nil _ _ _ _⟩; go_wp2_with fail; go_meet; (case rel => exact ⟨rfl, _, rfl, HXB⟩))
                  case rest =>
                    obtain ⟨rfl, bX, rfl, HXB⟩ := hcut
                    rename World => w13
                    have z4 := cell_later' HXB.out.below y4
                    have hz4 := cell_lt z4
                    clear y0 y1 y2 y3 n0 n1
                    go_wp2_with fail
                    go_loopw [17, 77] (fun _ ix wy => ∃ (m : Nat) (xv : Value), m ≤ cs.length ∧ ix = .int .i64 m ∧ Hid (XB w12 wy bX p1 p2 p3 (cf + roomP N kq ca t2) xv (cs.take m))) (fun _ ix _ => cs.length - (intOf ix).toNat)
                    case atStart => exact ⟨0, _, Nat.zero_le _, rfl, HXB⟩
                    case round =>
                      obtain ⟨m, xv, hm, rfl, HX4⟩ := hrel
                      rename World => wy'
                      clear HXB
                      by_cases hmlt : m < cs.length
                      · obtain ⟨sb, so, rfl, d0, d1⟩ := (HRS12.out.1.later HX4.out.below) m hmlt
                        have HTM := hide (show cs.take (m + 1) = cs.take m ++ [cs[m]] from List.take_succ_eq_append_getElem hmlt)
                        have hmi : (m : Int) < (cs.length : Int) := by omega
                        have hdl := cell_lt d0
                        generalize cs[m] = sm at *
                        obtain ⟨s1, s2⟩ := sm
                        dsimp only at d0 d1
                        have hA16 := bS (w := wy') (.cells #[.int .i64 s1, .int .i64 s2] 37)
                        have HX5 := hide (HX4.out.later hA16)
                        have g0 := new_cell wy' #[.int .i64 s1, .int .i64 s2] 37 0 (.int .i64 s1) rfl
                        have g1 := new_cell wy' #[.int .i64 s1, .int .i64 s2] 37 1 (.int .i64 s2) rfl
                        clear HX4 hA16
                        go_upto_region 17 with fail
                        clear d0 d1
                        generalize wy'.alloc (.cells #[.int .i64 s1, .int .i64 s2] 37) = w16 at *
                        generalize wy'.heap.size = bY at *
                        have x4 := HX5.out.c4
                        have hx4 := cell_lt x4
                        have hg0 := cell_lt g0
                        have HLM := hide (show (cs.take m).length = m by rw [List.length_take]; omega)
                        have hml : m + 1 ≤ maxLen := by unfold maxLen; omega
                        go_wp2_with (first
                          | (at_builtin; (refine wpList_append_lies _ rfl _ _ _ rfl (bX + 1) 37 iS _ 2 16 Tryz.underlying31 HIS.out HS0.out HS1.out HS2.out rfl (by omega) xv m (lieCells (cs.take m)) rfl ((HX5.out.ownN HLM.out).alloc _) ⟨_, 0, none⟩ 1 1 [.int .i64 s1, .int .i64 s2] rfl rfl (news_at rfl) (by simp [Value.oneCell']) (by omega) hml (by omega) (by simp; omega) _ rfl ?_); intro g2 cp2 w7 hown2 hgrow2 _ _; have HO7 := hide hown2; have HG7 := hide hgrow2; have hx7 := (HX5.out.later (bS _)).box hgrow2; obtain ⟨x7, f7⟩ := hx7))
                        all_goals
                          have HXN := hide ((HX5.out.later (bS _)).addN HG7.out HLM.out HO7.out)
                          go_roundw
                          case rel => exact ⟨m + 1, _, by omega, by go_num, by show XB _ _ _ _ _ _ _ _ _; rw [HTM.out]; exact HXN.out⟩
                          case measure => simp [intOf]; omega
                      · have hme : m = cs.length := by omega
                        subst hme
                        rw [List.take_length] at HX4
                        have x0 := HX4.out.c0
                        have x1 := HX4.out.c1
                        have x2 := HX4.out.c2
                        have x4 := HX4.out.c4
                        have hx4 := cell_lt x4
                        have h4 : Below wy'.heap.size wy' wy'.drew := (Below.refl _ _).drew
                        have hml : cs.length + 1 ≤ maxLen := by unfold maxLen; omega
                        go_upto_region 19 with fail
                        go_cut [59] from 59 to 126 (fun s59 wz => s59 = .int .i64 i ∧ ∃ gx cpx, Hid (XB w12 wz bX p1 p2 p3 (cf + roomP N kq ca t2) (.slice (some ⟨gx, 0, none⟩) (cs.length + 1) cpx) (cs ++ [(p1, p3)])))
                        case first =>
                          go_region_law (first
                            | (refine step_append_lies _ (by rfl) _ _ _ (by rfl) (bX + 1) 37 iS _ 2 16 Tryz.underlying31 HIS.out HS0.out HS1.out HS2.out rfl (by omega) xv cs.length (lieCells cs) (by rfl) (HXS.out.own.alloc _) ⟨_, 0, none⟩ 1 1 [.int .i64 p1, .int .i64 p3] (by rfl) (by rfl) (World.news_of_block (heap_alloc_new _ _)) (by simp [Value.oneCell']) (by omega) hml (by omega) (by simp; omega) _ rfl ?_; intro g2 cp2 w7 hown2 hgrow2 _ _; have HO7 := hide hown2; have HG7 := hide hgrow2; have hx7 := (HXS.out.later (bS _)).box hgrow2; obtain ⟨x7, f7⟩ := hx7)
                            | (go_simp; go_at_call 26; refine (l4step_any _ _ _ _).mono ?_; rintro e wS ⟨rfl, hbS⟩; have HXS := hide (HX4.out.later (h4.trans hbS)); have r4 := HXS.out.c4; have hr4 := cell_lt r4; clear hbS))
                          all_goals
                            have HXN := hide ((HXS.out.later (bS _)).add HG7.out HO7.out)
                            go_wp2_with fail
                            go_meet
                            case rel => exact ⟨rfl, g2, cp2, HXN⟩
                        case rest =>
                          obtain ⟨rfl, gx, cpx, HX6⟩ := hcut
                          rename World => w19
                          have HX6' := hide HX6.out
                          replace q0 := cell_later' HX6.out.below q0
                          replace q1 := cell_later' HX6.out.below q1
                          have HF19 := hide (HF12.out.later HX6.out.below)
                          have HK19 := hide (HK12.out.below HX6.out.below)
                          obtain ⟨p, hp⟩ : ∃ p : Nat, (p : Int) = 2 * (ek : Int) + sd := ⟨(2 * (ek : Int) + sd).toNat, by omega⟩
                          have HSA := hide (stepAt_end HEO.out hp)
                          have HPP := hide hp
                          have hpn : p < n2 := by have := HSA.out.2; omega
                          have hpi : (p : Int) < (n2 : Int) := by omega
                          have hq19 := cell_lt q0
                          have x0 := HX6.out.c0
                          have x1 := HX6.out.c1
                          have x2 := HX6.out.c2
                          have x3 := HX6.out.c3
                          have x4 := HX6.out.c4
                          have hx19 := cell_lt x0
                          have HXR := hide (steps_of_own3 HX6.out.own)
                          have HST := hide (show (p1, p3) = stepOf ((ek : Int), sd) by have h := enter_step (N := N) (e := ((ek : Int), sd)); rw [HEN.out] at h; exact h)
                          obtain ⟨i0, b0, hi0, hk0⟩ : ∃ i0 b0, bl3[p]? = some i0 ∧ kl3[p]? = some b0 := by
                            rcases HB3.out p hpn with ⟨_, h1, h2⟩ | ⟨i, _, h1, h2⟩
                            · exact ⟨_, _, h1, h2⟩
                            · exact ⟨_, _, h1, h2⟩
                          obtain ⟨put, hput⟩ : ∃ put : Bool, (b0 = false ∧ put = true ∧ (procAll best (cands G (roomP N q at' wy) ((line.map Cf.y).take j) ++ (candsOf G (roomP N q at' wy) ⟨cf, cs⟩ (kq, t2)).take i)).1 (stepAt p) = none) ∨ (b0 = true ∧ put = lessW ⟨cf + roomP N kq ca t2, cs ++ [(p1, p3)]⟩ i0.y ∧ (procAll best (cands G (roomP N q at' wy) ((line.map Cf.y).take j) ++ (candsOf G (roomP N q at' wy) ⟨cf, cs⟩ (kq, t2)).take i)).1 (stepAt p) = some i0.y) := by
                            rcases HB3.out p hpn with ⟨h0, h1, h2⟩ | ⟨i', h0, h1, h2⟩
                            · rw [hk0] at h2
                              exact ⟨true, .inl ⟨Option.some.inj h2, rfl, h0⟩⟩
                            · rw [hk0] at h2
                              rw [hi0] at h1
                              obtain rfl := Option.some.inj h1
                              exact ⟨_, .inr ⟨Option.some.inj h2, rfl, h0⟩⟩
                          have HPUT := hide hput
                          have ck := HF19.out.kAt hk0
                          obtain ⟨b0', b1', b2', b3', b4'⟩ := cfs_at HF19.out.ob hi0
                          have HI0 := hide (HF19.out.rs i0 (.inl (List.mem_of_getElem? hi0)))
                          have HIK := hide (And.intro hi0 hk0)
                          clear hi0 hk0 hput HX6 hp
                          go_upto_region 21 with fail
                          rw [show 2 * (ek : Int) + sd = (p : Int) from HPP.out.symm]
                          clear q0 q1
                          go_cut [59, 114] from 59 to 126 (fun s59 s114 wz => s59 = .int .i64 i ∧ s114 = .bool put ∧ Hid (Below w19.heap.size w19 wz))
                          case first =>
                            have k0 := cell_regrown x0
                            have k1 := cell_regrown x1
                            have k2 := cell_regrown x2
                            have k3 := cell_regrown x3
                            have k4 := cell_regrown x4
                            have k5 := cell_regrown ck
                            have k6 := cell_regrown b0'
                            have k7 := cell_regrown b1'
                            have k8 := cell_regrown b2'
                            have k9 := cell_regrown b3'
                            have k10 := cell_regrown b4'
                            rcases HPUT.out with ⟨rfl, rfl, _⟩ | ⟨rfl, hpu, _⟩
                            · refine wp_region_quiet_below (by kernel_rfl) (by kernel_rfl) ?_
                              repeat (go_big_quiet_step (fail))
                              refine wpQuiet_nil ?_
                              intro _ hw'
                              obtain ⟨⟨dq, osq⟩, hw''⟩ := hw'
                              subst hw''
                              have HBQ := hide (below_regrown w19 dq osq)
                              go_wp2_with fail
                              go_meet
                              case rel => exact ⟨rfl, rfl, HBQ⟩
                            · have HLQ := hide (show ∀ d os, _ from l4less_q (some ⟨gx, 0, none⟩) i0.z cpx i0.c p1 p2 p3 (lastS i0.y).1 i0.a (lastS i0.y).2 ⟨cf + roomP N kq ca t2, cs ++ [(p1, p3)]⟩ i0.y w19 (by simp; omega) HXR.out.1 HI0.out.1)
                              simp only [List.length_append, List.length_singleton] at HLQ
                              rw [← hpu] at HLQ
                              clear hpu
                              refine wp_region_quiet_below (by kernel_rfl) (by kernel_rfl) ?_
                              repeat (go_big_quiet_step (first | exact HLQ.out _ _))
                              refine wpQuiet_nil ?_
                              intro _ hw'
                              obtain ⟨⟨dq, osq⟩, hw''⟩ := hw'
                              subst hw''
                              have HBQ := hide (below_regrown w19 dq osq)
                              go_wp2_with fail
                              go_meet
                              case rel => exact ⟨rfl, rfl, HBQ⟩
                          case rest =>
                            obtain ⟨rfl, rfl, HBQ⟩ := hcut
                            rename World => w21
                            have HF21 := hide (HF19.out.later HBQ.out)
                            have HK21 := hide (HK19.out.below HBQ.out)
                            have HX21 := hide (HX6'.out.later HBQ.out)
                            have HXR21 := hide (HXR.out.later HBQ.out)
                            have HEXT := hide (show extW G (roomP N q at' wy) ⟨cf, cs⟩ ((kq : Int), t2) ((ek : Int), sd) = ⟨cf + roomP N kq ca t2, cs ++ [(p1, p3)]⟩ by
                              unfold extW
                              rw [← HC2'.out, ← HST.out])
                            have HSA1 := hide (show stepOf ((ek : Int), sd) = stepAt p from HSA.out.1.symm)
                            clear ck b0' b1' b2' b3' b4' x0 x1 x2 x3 x4 HF19 HK19 HX6' HXR
                            cases put with
                            | false =>
                              have HNEW : Hid (L23 N G (roomP N q at' wy) w w21 (.slice a N.pcs.length cap) (.slice (some ⟨jb, jo, none⟩) N.jts.length cap') n2 (w.heap.size + 1 + 1) (w.heap.size + 1 + 1 + 1) (.slice (some ⟨g, 0, none⟩) line.length cl) line best (cands G (roomP N q at' wy) ((line.map Cf.y).take j) ++ (candsOf G (roomP N q at' wy) ⟨cf, cs⟩ (kq, t2)).take (i + 1)) u8) := by
                                rcases HPUT.out with ⟨_, h, _⟩ | ⟨_, h, h'⟩
                                · cases h
                                · rw [HTK.out, ← List.append_assoc]
                                  refine L23_not (b := i0.y) HF21.out HB3.out HN3.out HC3.out HLN3.out ?_ ?_
                                  · dsimp only
                                    rw [HSA1.out]
                                    exact h'
                                  · dsimp only
                                    rw [HEXT.out]
                                    exact h.symm
                              go_wp2_with fail
                              go_roundw
                              case rel => exact ⟨i + 1, by omega, by go_num, HNEW, HK21⟩
                              case measure => simp [intOf]; omega
                            | true =>
                              have HPT := hide (show ∀ b, (procAll best (cands G (roomP N q at' wy) ((line.map Cf.y).take j) ++ (candsOf G (roomP N q at' wy) ⟨cf, cs⟩ (kq, t2)).take i)).1 (stepAt p) = some b → lessW ⟨cf + roomP N kq ca t2, cs ++ [(p1, p3)]⟩ b = true by
                                intro b hb
                                rcases HPUT.out with ⟨_, _, h⟩ | ⟨_, h, h'⟩
                                · rw [h] at hb; cases hb
                                · rw [h'] at hb
                                  obtain rfl := Option.some.inj hb
                                  exact h.symm)
                              have ck := HF21.out.kAt HIK.out.2
                              have fk := HF21.out.ok.frozenAt p
                              have hlo12 := HF12.out.lo
                              have hXlo := HX21.out.lo
                              have hck := cell_lt ck
                              have hm22 : Mid (w.heap.size + 1 + 1 + 1) (w.heap.size + 1 + 1 + 1 + 1) w21 (w21.setCell ⟨w.heap.size + 1 + 1 + 1, p, none⟩ (.bool true)) := Mid.set1 _
                              have HF22 := hide (HF21.out.mark p true)
                              have HK22 := hide (HK21.out.mid hm22 (by omega))
                              have HXR22 := hide (HXR21.out.mid hm22 (owns_type HF21.out.ok rfl (by decide)))
                              have x0 := hm22.cell (.inr (by omega)) HX21.out.c0
                              have x1 := hm22.cell (.inr (by omega)) HX21.out.c1
                              have x2 := hm22.cell (.inr (by omega)) HX21.out.c2
                              have x3 := hm22.cell (.inr (by omega)) HX21.out.c3
                              have x4 := hm22.cell (.inr (by omega)) HX21.out.c4
                              have HL21 := hide HF21.out.len
                              go_upto_region 23 with fail
                              clear ck fk hm22 HF21 HK21 HX21 HXR21
                              generalize w21.setCell ⟨w.heap.size + 1 + 1 + 1, p, none⟩ (.bool true) = w22 at *
                              obtain ⟨b0', b1', b2', b3', b4'⟩ := cfs_at HF22.out.ob HIK.out.1
                              have f0 := HF22.out.ob.frozenAt (p * 5)
                              have f1 := HF22.out.ob.frozenAt (p * 5 + 1)
                              have f2 := HF22.out.ob.frozenAt (p * 5 + 2)
                              have f3 := HF22.out.ob.frozenAt (p * 5 + 3)
                              have f4 := HF22.out.ob.frozenAt (p * 5 + 4)
                              have hput := HF22.out.put p hpn ⟨⟨cf + roomP N kq ca t2, cs ++ [(p1, p3)]⟩, p2, some ⟨gx, 0, none⟩, cpx⟩ HXR22.out
                              simp only [lastS_snoc, List.length_append, List.length_singleton] at hput
                              obtain ⟨hF23, hm23⟩ := hput
                              have HF23 := hide hF23
                              have HK23 := hide (HK22.out.mid hm23 (by omega))
                              have HXR23 := hide (HXR22.out.mid hm23 (owns_type HF22.out.ob rfl (by decide)))
                              have z0 := hm23.cell (.inr (by omega)) x0
                              have z1 := hm23.cell (.inr (by omega)) x1
                              have z2 := hm23.cell (.inr (by omega)) x2
                              have z3 := hm23.cell (.inr (by omega)) x3
                              have z4' := hm23.cell (.inr (by omega)) x4
                              have hb0l := cell_lt b0'
                              have hx0l := cell_lt x0
                              clear hF23 hm23
                              go_upto_region 24 with fail
                              clear b0' b1' b2' b3' b4' f0 f1 f2 f3 f4 x0 x1 x2 x3 x4 HF22 HK22 HXR22
                              generalize ((((w22.setCell ⟨w.heap.size + 1 + 1, p * 5, none⟩ (.int .i64 p1)).setCell ⟨w.heap.size + 1 + 1, p * 5 + 1, none⟩ (.int .i64 p2)).setCell ⟨w.heap.size + 1 + 1, p * 5 + 2, none⟩ (.int .i64 p3)).setCell ⟨w.heap.size + 1 + 1, p * 5 + 3, none⟩ (.int .i64 (cf + roomP N kq ca t2))).setCell ⟨w.heap.size + 1 + 1, p * 5 + 4, none⟩ (.slice (some ⟨gx, 0, none⟩) (cs.length + 1) cpx) = w23 at *
                              have hzl0 := cell_lt z0
                              have hs23 := HF23.out.lo
                              have hml : nx3.length + 1 ≤ maxLen := by unfold maxLen; omega
                              have HX := hide (show CfR N G (roomP N q at' wy) ⟨⟨cf + roomP N kq ca t2, cs ++ [(p1, p3)]⟩, p2, some ⟨gx, 0, none⟩, cpx⟩ by
                                have he1 : p1 = (ek : Int) := by
                                  have h := HST.out
                                  unfold stepOf at h
                                  exact (Prod.mk.inj h).1
                                constructor
                                · dsimp only
                                  rw [lastS_snoc]
                                  have h := enterP_ok HR.out HEO.out
                                  rw [HEN.out] at h
                                  exact h
                                · dsimp only
                                  rw [lastS_snoc]
                                  have h := enter_room' (N := N) (e := ((ek : Int), sd))
                                  rw [HEN.out] at h
                                  dsimp only at h
                                  have hc1 : ¬ (cs ++ [(p1, p3)]).length = 1 := by
                                    have := HCL.out
                                    simp
                                    intro hc
                                    rw [hc] at this
                                    simp at this
                                  unfold costW
                                  dsimp only
                                  rw [if_neg hc1, HGL.out, he1]
                                  rw [he1] at h
                                  exact h)
                              go_wp2_with (first
                                | (at_builtin; (refine wpList_append_lies _ rfl _ _ _ rfl (w.heap.size + 2) 71 iC _ 5 56 Tryz.underlying73 HIC.out HC0.out HC1.out HC2.out rfl (by omega) u8 nx3.length (cfCells nx3) rfl (HF23.out.on.alloc _) ⟨_, 0, none⟩ 1 1 [.int .i64 p1, .int .i64 p2, .int .i64 p3, .int .i64 (cf + roomP N kq ca t2), .slice (some ⟨gx, 0, none⟩) (cs.length + 1) cpx] rfl rfl (news_at rfl) (by simp [Value.oneCell']) (by omega) hml (by omega) (by simp; omega) _ rfl ?_); intro g2 cp2 w24 hown2 hgrow2 hgg _; have HO7 := hide hown2; have HG7 := hide hgrow2; have HGG := hide hgg; clear hgg))
                              all_goals
                                have HFA := hide ((HF23.out.later (bS (.cells #[.int .i64 p1, .int .i64 p2, .int .i64 p3, .int .i64 (cf + roomP N kq ca t2), .slice (some ⟨gx, 0, none⟩) (cs.length + 1) cpx] 71))).app (g := g2) (cap := cp2) (x := ⟨⟨cf + roomP N kq ca t2, cs ++ [(p1, p3)]⟩, p2, some ⟨gx, 0, none⟩, cpx⟩) (HXR23.out.later (bS _)) HG7.out (by
                                  have e : cf5 ⟨⟨cf + roomP N kq ca t2, cs ++ [(p1, p3)]⟩, p2, some ⟨gx, 0, none⟩, cpx⟩ = [.int .i64 p1, .int .i64 p2, .int .i64 p3, .int .i64 (cf + roomP N kq ca t2), .slice (some ⟨gx, 0, none⟩) (cs.length + 1) cpx] := by simp [cf5, lastS_snoc]
                                  rw [e]
                                  exact HO7.out) (HGG.out.imp id (fun h => by omega)))
                                have HNEW : Hid (L23 N G (roomP N q at' wy) w w24 (.slice a N.pcs.length cap) (.slice (some ⟨jb, jo, none⟩) N.jts.length cap') n2 (w.heap.size + 1 + 1) (w.heap.size + 1 + 1 + 1) (.slice (some ⟨g, 0, none⟩) line.length cl) line best (cands G (roomP N q at' wy) ((line.map Cf.y).take j) ++ (candsOf G (roomP N q at' wy) ⟨cf, cs⟩ (kq, t2)).take (i + 1)) (.slice (some ⟨g2, 0, none⟩) (nx3.length + 1) cp2)) := by
                                  show L23 _ _ _ _ _ _ _ _ _ _ _ _ _ _ _
                                  rw [HTK.out, ← List.append_assoc]
                                  exact L23_put HFA.out HB3.out HN3.out HC3.out HLN3.out hpn HL21.out HX.out HSA1.out HEXT.out HPT.out
                                have HKN := hide ((HK23.out.below (bS _)).app HG7.out (nv' := .slice (some ⟨g2, 0, none⟩) (nx3.length + 1) cp2) (fun g e => by
                                  have e' : g2 = g := by simpa [Value.ownBlock] using e
                                  subst e'
                                  rcases HGG.out with h | h
                                  · exact .inl h
                                  · exact .inr (by omega)))
                                go_roundw
                                case rel => exact ⟨i + 1, by omega, by go_num, HNEW, HKN⟩
                                case measure => simp [intOf]; omega
                · have hie : i = L.length := by omega
                  subst hie
                  have HNEW : Hid (L23 N G (roomP N q at' wy) w wi (.slice a N.pcs.length cap) (.slice (some ⟨jb, jo, none⟩) N.jts.length cap') n2 (w.heap.size + 1 + 1) (w.heap.size + 1 + 1 + 1) (.slice (some ⟨g, 0, none⟩) line.length cl) line best (cands G (roomP N q at' wy) ((line.map Cf.y).take (j + 1))) u8) := by
                    have h := HL3.out
                    rw [cands_all HNX.out, ← HCS.out] at h
                    exact h
                  clear HL3
                  go_wp2_with fail
                  go_roundw
                  case rel => exact ⟨j + 1, by omega, by go_num, HNEW⟩
                  case measure => simp [intOf]; omega
          · have hje : j = line.length := by omega
            subst hje
            obtain ⟨bl2, kl2, nx, hF, hB, hN, hC, hL⟩ := HL2.out
            have HNEW := hide (show L1 N G (q, wy) (roomP N q at' wy) w wx (.slice a N.pcs.length cap) (.slice a' N.jts.length cap') n2 (w.heap.size + 1 + 1) (w.heap.size + 1 + 1 + 1) u8 (2 * G.n + 1 - (k + 1)) from by
              rw [List.take_of_length_le (by simp)] at hB hN hL
              refine ⟨k + 1, _, bl2, kl2, nx, ?_, hF.turn, hB, hC, ?_, Nat.le_refl _⟩
              · rw [hN]; exact round_next hrm.1 HRI.out
              · have h1 := cands_len (G := G) (room := roomP N q at' wy) (fun e => by rw [HGX.out]; exact nxP_len N e) (line.map Cf.y)
                rw [List.length_map] at h1
                rw [Nat.pow_succ]
                omega)
            clear hF hB hN hC hL HL2
            go_wp2_with fail
            go_roundg (2 * G.n + 1 - (k + 1))
            case measure => omega
            case rel => exact HNEW.out
end Go.Proofs.YtldafgbhjpfboaaGreat
