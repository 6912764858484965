import Derived.Test.YtplnppdlabpodaaAcC
import Derived.Test.YtplnppdlabpodaaMkC
import Derived.Test.YtplnppdlabpodaaMkH
import Derived.Test.YtplnppdlabpodaaLwB
import Derived.Deep.RegionWith
import Derived.Deep.DeepCutAuto
namespace Go.Proofs.Ytplnppdlabpodaa
open Go.RowKit
set_option maxHeartbeats 4000000

theorem NewEnds.later {B : Nat} {w w' : World} {v : Value} {l} (h : NewEnds B w v l) (hb : Below w.heap.size w w') : NewEnds B w' v l := by
  obtain ⟨a, cap, h1, h2, h3⟩ := h
  refine ⟨a, cap, h1, h2.later hb, ?_⟩
  rcases h3 with h3 | ⟨b, h4, h5, h6⟩
  · exact Or.inl h3
  · exact Or.inr ⟨b, h4, h5, h6.later hb⟩

/-- Where the list's row lies. -/
theorem NewEnds.own {B : Nat} {w : World} {v : Value} {l} (h : NewEnds B w v l) : ∃ a cap, v = .slice a l.length cap ∧ EndsAt w a l ∧ (l.length = 0 ∨ ∃ b, B ≤ b ∧ b < w.heap.size ∧ a = some ⟨b, 0, none⟩ ∧ Row w b 41 (l.length * 2)) := by
  obtain ⟨a, cap, h1, h2, h3⟩ := h
  refine ⟨a, cap, h1, h2, ?_⟩
  rcases h3 with h3 | ⟨b, h4, h5, h6⟩
  · exact Or.inl h3
  · exact Or.inr ⟨b, h4, by obtain ⟨f, hf⟩ := h6; exact hf.lt, h5, h6⟩

theorem EndsAt.mid {B C : Nat} {w w' : World} {a : Option Addr} {l} (h : EndsAt w a l) (hm : Mid B C w w') (hb : ∀ b off, a = some ⟨b, off, none⟩ → b < B ∨ C ≤ b) : EndsAt w' a l := by
  intro k hk
  obtain ⟨b, off, ha, h1, h2⟩ := h k hk
  exact ⟨b, off, ha, hm.cell (hb b off ha) h1, hm.cell (hb b off ha) h2⟩

theorem Marked.later {w w' : World} {a : Option Addr} {n : Nat} {k : Int} (h : Marked w a n k) (hb : Below w.heap.size w w') : Marked w' a n k := by
  intro i hi
  obtain ⟨b, ha, h1, h2⟩ := h i hi
  exact ⟨b, ha, cell_later' hb h1, cell_later' hb h2⟩

theorem acr_len (j : Jt) (i : Nat) : (acr j i).length ≤ 2 := by
  unfold acr
  split
  · cases j.ends[1 - i]? <;> simp
  · split
    · split
      · cases j.ends[1]? <;> cases j.ends[2]? <;> simp
      · cases j.ends[0]? <;> simp
    · split
      · generalize (if i = 0 then 1 else if i = 1 then 0 else if i = 2 then 3 else 2) = q
        cases j.ends[q]? <;> simp
      · simp

theorem AC.len {N : Nt} {e : Int × Int} {l} (h : AC N e l) : l.length ≤ 1048576 := by
  rcases h with ⟨j, i, hj, _, _, rfl⟩ | ⟨_, rfl⟩
  · have := acr_len N.jts[j] i; omega
  · simp

/-- Marking a list that a call has made, or none: what is marked; only its own row turns. -/
theorem markEndS_own (a : Option Addr) (n cap : Nat) (k : Int) (B : Nat) (w : World) (hn : n ≤ 1048576) (h0 : 0 ≤ k) (h1 : k ≤ 1125899906842624) (h : n = 0 ∨ ∃ b, B ≤ b ∧ b < w.heap.size ∧ a = some ⟨b, 0, none⟩ ∧ Row w b 41 (n * 2)) :
    Calls Try.prog 27 #[.slice a n cap, .int .i64 k] w fun e w' =>
    e = .returned (.int .i64 (k + 2 * n)) ∧ Mid B w.heap.size w w' ∧ Marked w' a n k := by
  rcases h with rfl | ⟨b, hB, hb, rfl, hr⟩
  · refine (markEndS_none a cap k w).mono ?_
    rintro e w' ⟨rfl, rfl⟩
    exact ⟨by simp, Mid.refl _ _ _, fun i hi => by omega⟩
  · refine (markEndS_some b n cap k w hn h0 h1 hr).mono ?_
    rintro e w' ⟨rfl, hm, _, hmk⟩
    exact ⟨rfl, hm.wide hB (by omega), hmk⟩

theorem own_lt {w : World} {B : Nat} {a : Option Addr} {n : Nat} (h : n = 0 ∨ ∃ b, B ≤ b ∧ b < w.heap.size ∧ a = some ⟨b, 0, none⟩ ∧ Row w b 41 (n * 2)) : ∀ b off, a = some ⟨b, off, none⟩ → (n = 0 ∨ (B ≤ b ∧ b < w.heap.size)) := by
  intro b off hab
  rcases h with h | ⟨b', h1, h2, h3, _⟩
  · exact Or.inl h
  · rw [h3] at hab
    obtain ⟨rfl, rfl⟩ : b' = b ∧ 0 = off := by simpa using hab
    exact Or.inr ⟨h1, h2⟩

theorem EndsAt.mid' {B C : Nat} {w w' : World} {a : Option Addr} {l : List (Int × Int)} (h : EndsAt w a l) (hm : Mid B C w w') (hb : ∀ b off, a = some ⟨b, off, none⟩ → (l.length = 0 ∨ b < B ∨ C ≤ b)) : EndsAt w' a l := by
  intro k hk
  obtain ⟨b, off, ha, h1, h2⟩ := h k hk
  have hb' : b < B ∨ C ≤ b := by rcases hb b off ha with h | h <;> omega
  exact ⟨b, off, ha, hm.cell hb' h1, hm.cell hb' h2⟩

theorem fnAcross_walk (a a' : Option Addr) (N : Nt) (cap cap' : Nat) (p s : Int) (w : World) (hwf : Wf2 (p, s)) (hp : PcsAt w a N.pcs) (hj : JtsAt w a' N.jts) (hn : N.pcs.length ≤ maxLen ∧ ∀ p ∈ N.pcs, p.name.size ≤ maxLen) (hl : N.jts.length ≤ maxLen ∧ ∀ j ∈ N.jts, j.name.size ≤ maxLen ∧ j.ends.length ≤ maxLen) :
    Calls Try.prog 5 #[.agg #[.slice a N.pcs.length cap, .slice a' N.jts.length cap'], .agg #[.int .i64 p, .int .i64 s]] w fun e w' =>
    e = .returned (.bool true) ∧ Below w.heap.size w w' := by
  have HP := hide hp
  have HJ := hide hj
  have HN := hide hn
  have HL := hide hl
  have HWF := hide hwf
  clear hp hj hn hl hwf
  go_enter Try.func5, Try.ntmps5
  go_wp2_with fail
  have hbW : Below w.heap.size w ((w.alloc (.cells #[.slice a N.pcs.length cap, .slice a' N.jts.length cap'] 25)).alloc (.cells #[.int .i64 p, .int .i64 s] 39)) := ((Below.refl _ _).alloc (Nat.le_refl _) _).alloc (by simp) _
  refine (szNet_any a a' N cap cap' 1048576 _ HN.out.1 (HP.out.later hbW) HN.out.2 HL.out.1 (HJ.out.later hbW) HL.out.2 (by omega) (by omega)).mono ?_
  rintro e w1 ⟨r, rfl, hr1, hr2, hr3, hb1⟩
  obtain ⟨hc, hf⟩ := bcell hb1
  have t0 : w1.cell? ⟨w.heap.size, 0, none⟩ = some (.slice a N.pcs.length cap) := by rw [hc _ _ (by simp; omega)]; simp [go_sem]
  have t1 : w1.cell? ⟨w.heap.size, 1, none⟩ = some (.slice a' N.jts.length cap') := by rw [hc _ _ (by simp; omega)]; simp [go_sem]
  have e0 : w1.cell? ⟨w.heap.size + 1, 0, none⟩ = some (.int .i64 p) := by rw [hc _ _ (by simp)]; simp [go_sem]
  have e1 : w1.cell? ⟨w.heap.size + 1, 1, none⟩ = some (.int .i64 s) := by rw [hc _ _ (by simp)]; simp [go_sem]
  have hB1 := hbW.trans (hb1.mono hbW.size)
  have HR := hide hr3
  clear hr3 hb1 hc hf
  by_cases hr : r < 0
  · go_wp2_with fail
    go_ret
    exact ⟨rfl, hB1⟩
  have hrr : decide (r < 0) = false := by rw [decide_eq_false_iff_not]; exact hr
  obtain ⟨⟨hn, hns⟩, hl, hls⟩ := HR.out (by omega)
  have HNS := hide hns
  have HLS := hide hls
  have HLM := hide (fun j (hj : j ∈ N.jts) => (HLS.out j hj).2)
  clear hns hls
  have hzz := cell_lt e0
  have hD1 : Below w.heap.size w w1.drew := hB1.drew
  have h11 : Below w1.heap.size w1 w1.drew := (Below.refl _ _).drew
  go_upto_region 5 with fail
  go_cut [6] (fun s6 wx => ∃ (z : Option Addr) (zc : Nat) (l : List (Int × Int)), s6 = .slice z l.length zc ∧ AC N (p, s) l ∧ Hid (EndsAt wx z l) ∧ Hid (l.length = 0 ∨ ∃ b, w1.heap.size ≤ b ∧ b < wx.heap.size ∧ z = some ⟨b, 0, none⟩ ∧ Row wx b 41 (l.length * 2)) ∧ Below w1.heap.size w1 wx)
  case first =>
    go_region_with (first
      | (go_at_call 16; refine (toNet_any a a' N cap cap' _ hn ?_ hl ?_ ?_).mono ?_; exact HP.out.later hD1; exact HLM.out; exact HJ.out.later hD1; rintro e w2 ⟨b1, b2, rfl, hO, hbN⟩; have e0N := cell_later' (chain h11 hbN) e0; have e1N := cell_later' (chain h11 hbN) e1)
      | (go_at_call 21; refine (toEnd_any _ _ _).mono ?_; rintro e w3 ⟨rfl, hbE⟩)
      | (go_at_call 23; refine (specAcross_any _ _ N _ _ _ _ _ hn HNS.out hl HLS.out ?_ ?_).mono ?_; exact (hO.later hbE).2.2.2.1; exact (hO.later hbE).2.2.2.2.at; rintro e w4 ⟨v, l, rfl, hAC, hNE, hbJ⟩))
    all_goals
      have hbb := chain (chain h11 hbN) hbE
      obtain ⟨z, zc, rfl, hz1, hz2⟩ := (hNE.mono hbb.size).own
      go_wp2_with fail
      go_meet
      exact ⟨z, zc, l, rfl, hAC, hz1, hz2, chain hbb hbJ⟩
  case rest =>
    obtain ⟨z, zc, l, rfl, hAC, HZ1, HZ2, hbx⟩ := hcut
    have HAC := hide hAC
    have hll := hAC.len
    have hB2 := hB1.trans (hbx.mono hB1.size)
    have t0 := cell_later' hbx t0
    have t1 := cell_later' hbx t1
    have e0 := cell_later' hbx e0
    have e1 := cell_later' hbx e1
    have hzb := own_lt HZ2.out
    have HZB := hide hzb
    have hzA := cell_lt e0
    clear hAC hbx hzz hD1 h11 hB1 hzb HZ2
    rename World => wA
    go_wp2_with fail
    refine (toNet_any a a' N cap cap' _ hn (HP.out.later hB2) hl HLM.out (HJ.out.later hB2)).mono ?_
    rintro e w5 ⟨c1, c2, rfl, hO, hb5⟩
    have hB5 := hB2.trans (hb5.mono hB2.size)
    have hA5 := hb5.size
    have t0 := cell_later' hb5 t0
    have t1 := cell_later' hb5 t1
    have e0 := cell_later' hb5 e0
    have e1 := cell_later' hb5 e1
    have HZ1 := hide (HZ1.out.later hb5)
    have hc1 := hO.1
    have hc2 := hO.2.1
    have HRJ := hide hO.2.2.2.2.rows
    have hA := (Below.refl w5.heap.size w5).alloc (Nat.le_refl _) (.cells #[.slice (some ⟨c1, 0, none⟩) N.pcs.length N.pcs.length, .slice (some ⟨c2, 0, none⟩) N.jts.length N.jts.length] 33)
    have hs6 : w5.heap.size < (w5.alloc (.cells #[.slice (some ⟨c1, 0, none⟩) N.pcs.length N.pcs.length, .slice (some ⟨c2, 0, none⟩) N.jts.length N.jts.length] 33)).heap.size := by simp
    have v0 := new_cell w5 #[.slice (some ⟨c1, 0, none⟩) N.pcs.length N.pcs.length, .slice (some ⟨c2, 0, none⟩) N.jts.length N.jts.length] 33 0 _ rfl
    have v1 := new_cell w5 #[.slice (some ⟨c1, 0, none⟩) N.pcs.length N.pcs.length, .slice (some ⟨c2, 0, none⟩) N.jts.length N.jts.length] 33 1 _ rfl
    have HO := hide (hO.later hA)
    have HRJ := hide (HRJ.out.later hA)
    have t0 := cell_later' hA t0
    have t1 := cell_later' hA t1
    have e0 := cell_later' hA e0
    have e1 := cell_later' hA e1
    have HZ1 := hide (HZ1.out.later hA)
    have hB6 := hB5.trans (hA.mono hB5.size)
    clear hO hA hb5
    go_upto_region 7 with fail
    generalize w5.alloc (.cells #[.slice (some ⟨c1, 0, none⟩) N.pcs.length N.pcs.length, .slice (some ⟨c2, 0, none⟩) N.jts.length N.jts.length] 33) = w6 at *
    have h66 : Below w6.heap.size w6 w6.drew := (Below.refl _ _).drew
    go_cut [8] (fun s8 wx => ∃ (y : Option Addr) (yc : Nat) (l' : List (Int × Int)), s8 = .slice y l'.length yc ∧ AC N (p, s) l' ∧ Hid (EndsAt wx y l') ∧ Hid (l'.length = 0 ∨ ∃ b, w6.heap.size ≤ b ∧ b < wx.heap.size ∧ y = some ⟨b, 0, none⟩ ∧ Row wx b 41 (l'.length * 2)) ∧ Below w6.heap.size w6 wx)
    case first =>
      go_region_with (first
        | (go_at_call 21; refine (toEnd_any _ _ _).mono ?_; rintro e w7 ⟨rfl, hbE⟩; have hb67 := chain h66 hbE; have v0' := cell_later' hb67 v0; have v1' := cell_later' hb67 v1)
        | (go_at_call 24; refine (implAcross_any _ _ N _ _ _ _ _ HWF.out hn HNS.out hl HLS.out ?_ ?_).mono ?_; exact (HO.out.later hb67).2.2.2.1; exact (HO.out.later hb67).2.2.2.2.at; rintro e w8 ⟨v, l', rfl, hAC, hNE, hbJ⟩))
      all_goals
        obtain ⟨y, yc, rfl, hz1, hz2⟩ := (hNE.mono hb67.size).own
        go_wp2_with fail
        go_meet
        exact ⟨y, yc, l', rfl, hAC, hz1, hz2, chain hb67 hbJ⟩
    case rest =>
      obtain ⟨y, yc, l', rfl, hAC', HY1, HY2, hbx⟩ := hcut
      have hll' := AC.unique HAC.out hAC'
      subst hll'
      rename World => wB
      have hB7 := hB6.trans (hbx.mono hB6.size)
      have h6B := hbx.size
      have t0 := cell_later' hbx t0
      have t1 := cell_later' hbx t1
      have e0 := cell_later' hbx e0
      have e1 := cell_later' hbx e1
      have v0 := cell_later' hbx v0
      have v1 := cell_later' hbx v1
      have HZ1 := hide (HZ1.out.later hbx)
      have HO := hide (HO.out.later hbx)
      have HRJ := hide (HRJ.out.later hbx)
      clear hAC' hbx h66
      go_wp2_with fail
      refine (eqEndS_same y z l yc zc _ hll HY1.out HZ1.out).mono ?_
      rintro e w7 ⟨rfl, hb7⟩
      have hB8 := hB7.trans (hb7.mono hB7.size)
      have hB78 := hb7.size
      have t0 := cell_later' hb7 t0
      have t1 := cell_later' hb7 t1
      have e0 := cell_later' hb7 e0
      have e1 := cell_later' hb7 e1
      have v0 := cell_later' hb7 v0
      have v1 := cell_later' hb7 v1
      have HZ1 := hide (HZ1.out.later hb7)
      have HY1 := hide (HY1.out.later hb7)
      have HO := hide (HO.out.later hb7)
      have HRJ := hide (HRJ.out.later hb7)
      have HYO : Hid (l.length = 0 ∨ ∃ b, w6.heap.size ≤ b ∧ b < w7.heap.size ∧ y = some ⟨b, 0, none⟩ ∧ Row w7 b 41 (l.length * 2)) := by
        rcases HY2.out with h | ⟨b, h1, h2, h3, h4⟩
        · exact Or.inl h
        · exact Or.inr ⟨b, h1, Nat.lt_of_lt_of_le h2 hb7.size, h3, h4.later hb7⟩
      clear hb7 HY2
      have hBd : Below w.heap.size w w7.drew := hB8.drew
      have h77 : Below w7.heap.size w7 w7.drew := (Below.refl _ _).drew
      have HX0 := hide HO.out.2.2.2.1
      have HX1 := hide HO.out.2.2.2.2.at
      go_upto_region 10 with fail
      go_cut [37] (fun s37 wx => s37 = .bool false ∧ Below w7.heap.size w7 wx)
      case first =>
        go_region_with (first
          | (go_at_call 16; refine (toNet_any a a' N cap cap' _ hn ?_ hl ?_ ?_).mono ?_; exact HP.out.later hBd; exact HLM.out; exact HJ.out.later hBd; rintro e w8 ⟨d1, d2, rfl, hO8, hb8⟩; have hb78 := chain h77 hb8; have v0' := cell_later' hb78 v0; have v1' := cell_later' hb78 v1)
          | (go_at_call 19; refine (eqNet_same _ _ _ _ N _ _ _ _ _ hn hl ?_ ?_ ?_ ?_ ?_).mono ?_; exact HLM.out; exact HX0.out.later hb78; exact hO8.2.2.2.1; exact HX1.out.later hb78; exact hO8.2.2.2.2.at; rintro e w9 ⟨rfl, hb9⟩))
        all_goals
          go_wp2_with fail
          go_meet
          exact ⟨rfl, chain hb78 hb9⟩
      case rest =>
        obtain ⟨rfl, hbx⟩ := hcut
        rename World => wD
        have hB9 := hB8.trans (hbx.mono hB8.size)
        have hBD := hbx.size
        have t0 := cell_later' hbx t0
        have t1 := cell_later' hbx t1
        have e0 := cell_later' hbx e0
        have e1 := cell_later' hbx e1
        have v0 := cell_later' hbx v0
        have v1 := cell_later' hbx v1
        have HZ1 := hide (HZ1.out.later hbx)
        have HY1 := hide (HY1.out.later hbx)
        have HR1 := hide (HO.out.2.2.1.later hbx)
        have HRJ := hide (HRJ.out.later hbx)
        have HYO : Hid (l.length = 0 ∨ ∃ b, w6.heap.size ≤ b ∧ b < wD.heap.size ∧ y = some ⟨b, 0, none⟩ ∧ Row wD b 41 (l.length * 2)) := by
          rcases HYO.out with h | ⟨b, h1, h2, h3, h4⟩
          · exact Or.inl h
          · exact Or.inr ⟨b, h1, Nat.lt_of_lt_of_le h2 hbx.size, h3, h4.later hbx⟩
        clear hbx h77 hBd HX0 HX1 HO
        go_wp2_with fail
        refine (markNet_any wA.heap.size c1 c2 w5.heap.size _ _ N 1 _ hn hl HLM.out (by omega) (by omega) hc1 hc2 HR1.out HRJ.out).mono ?_
        rintro e w8 ⟨k', rfl, hk', hm8⟩
        have hB10 := hB9.trans ((hm8.below (by omega)).mono hB2.size)
        have hD8 := hm8.size
        have t0 := hm8.cell (Or.inl (by omega)) t0
        have t1 := hm8.cell (Or.inl (by omega)) t1
        have e0 := hm8.cell (Or.inl hzA) e0
        have e1 := hm8.cell (Or.inl hzA) e1
        have HZ1 := hide (HZ1.out.mid' hm8 (fun b off h => by rcases HZB.out b off h with h | h; exact Or.inl h; exact Or.inr (Or.inl h.2)))
        have HY1 := hide (HY1.out.mid' hm8 (fun b off h => by rcases own_lt HYO.out b off h with h | h; exact Or.inl h; exact Or.inr (Or.inr (by omega))))
        have HYO : Hid (l.length = 0 ∨ ∃ b, w6.heap.size ≤ b ∧ b < w8.heap.size ∧ y = some ⟨b, 0, none⟩ ∧ Row w8 b 41 (l.length * 2)) := by
          rcases HYO.out with h | ⟨b, h1, h2, h3, h4⟩
          · exact Or.inl h
          · exact Or.inr ⟨b, h1, Nat.lt_of_lt_of_le h2 hm8.size, h3, hm8.row (Or.inr (by omega)) h4⟩
        have hk2 : decide (k' < 0) = false := by rw [decide_eq_false_iff_not]; omega
        clear hm8 HR1 HRJ
        go_wp2_with fail
        refine (eqEndS_same y z l yc zc _ hll HY1.out HZ1.out).mono ?_
        rintro e w9 ⟨rfl, hb9⟩
        have hB11 := hB10.trans (hb9.mono hB10.size)
        have h89 := hb9.size
        have t0 := cell_later' hb9 t0
        have t1 := cell_later' hb9 t1
        have e0 := cell_later' hb9 e0
        have e1 := cell_later' hb9 e1
        have HZ1 := hide (HZ1.out.later hb9)
        have HYO : Hid (l.length = 0 ∨ ∃ b, w6.heap.size ≤ b ∧ b < w9.heap.size ∧ y = some ⟨b, 0, none⟩ ∧ Row w9 b 41 (l.length * 2)) := by
          rcases HYO.out with h | ⟨b, h1, h2, h3, h4⟩
          · exact Or.inl h
          · exact Or.inr ⟨b, h1, Nat.lt_of_lt_of_le h2 hb9.size, h3, h4.later hb9⟩
        clear hb9 HY1
        go_wp2_with fail
        refine (markEndS_own y l.length yc 1 w6.heap.size _ hll (by omega) (by omega) HYO.out).mono ?_
        rintro e w10 ⟨rfl, hm10, hmk⟩
        have HMK := hide hmk
        have hB12 := hB11.trans ((hm10.below (by omega)).mono hB6.size)
        have t0 := hm10.cell (Or.inl (by omega)) t0
        have t1 := hm10.cell (Or.inl (by omega)) t1
        have e0 := hm10.cell (Or.inl (by omega)) e0
        have e1 := hm10.cell (Or.inl (by omega)) e1
        have HZ1 := hide (HZ1.out.mid' hm10 (fun b off h => by rcases HZB.out b off h with h | h; exact Or.inl h; exact Or.inr (Or.inl (by omega))))
        clear hmk hm10 HYO
        go_wp2_with fail
        refine (heldEndS_any y l.length yc 1 _ hll (by omega) (by omega) HMK.out).mono ?_
        rintro e w10' ⟨rfl, rfl⟩
        have hq1 : ((1 + 2 * (l.length : Int)) != 1 + 2 * (l.length : Int)) = false := by simp
        have hq2 : decide (1 + 2 * (l.length : Int) < 0) = false := by rw [decide_eq_false_iff_not]; omega
        have hBd : Below w.heap.size w w10.drew := hB12.drew
        have h10 : Below w10.heap.size w10 w10.drew := (Below.refl _ _).drew
        go_upto_region 24 with fail
        go_cut [12] (fun s12 wx => ∃ (x : Option Addr) (xc : Nat) (l' : List (Int × Int)), s12 = .slice x l'.length xc ∧ AC N (p, s) l' ∧ Hid (EndsAt wx x l') ∧ Below w10.heap.size w10 wx)
        case first =>
          go_region_with (first
            | (go_at_call 16; refine (toNet_any a a' N cap cap' _ hn ?_ hl ?_ ?_).mono ?_; exact HP.out.later hBd; exact HLM.out; exact HJ.out.later hBd; rintro e w11 ⟨d1, d2, rfl, hO, hbN⟩; have e0N := cell_later' (chain h10 hbN) e0; have e1N := cell_later' (chain h10 hbN) e1)
            | (go_at_call 21; refine (toEnd_any _ _ _).mono ?_; rintro e w12 ⟨rfl, hbE⟩)
            | (go_at_call 24; refine (implAcross_any _ _ N _ _ _ _ _ HWF.out hn HNS.out hl HLS.out ?_ ?_).mono ?_; exact (hO.later hbE).2.2.2.1; exact (hO.later hbE).2.2.2.2.at; rintro e w13 ⟨v, l', rfl, hAC, hNE, hbJ⟩))
          all_goals
            obtain ⟨x, xc, rfl, hz1, _⟩ := hNE.own
            go_wp2_with fail
            go_meet
            exact ⟨x, xc, l', rfl, hAC, hz1, chain (chain (chain h10 hbN) hbE) hbJ⟩
        case rest =>
          obtain ⟨x, xc, l', rfl, hAC', HX1, hbx⟩ := hcut
          have hll' := AC.unique HAC.out hAC'
          subst hll'
          rename World => wE
          have hB13 := hB12.trans (hbx.mono hB12.size)
          have HZ1 := hide (HZ1.out.later hbx)
          have HMK := hide (HMK.out.later hbx)
          clear hAC' hbx h10 hBd
          go_wp2_with fail
          refine (eqEndS_same x z l xc zc _ hll HX1.out HZ1.out).mono ?_
          rintro e w11 ⟨rfl, hb11⟩
          have hB14 := hB13.trans (hb11.mono hB13.size)
          have HMK := hide (HMK.out.later hb11)
          clear hb11
          go_wp2_with fail
          refine (heldEndS_any y l.length yc 1 _ hll (by omega) (by omega) HMK.out).mono ?_
          rintro e w11' ⟨rfl, rfl⟩
          go_wp2_with fail
          go_ret
          exact ⟨rfl, hB14⟩
end Go.Proofs.Ytplnppdlabpodaa
