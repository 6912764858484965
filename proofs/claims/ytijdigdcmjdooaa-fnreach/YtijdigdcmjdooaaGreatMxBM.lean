/- What FnShortest asks of Shortest's answers: plain. Own work. -/
import Derived.Test.YtijdigdcmjdooaaGreatMxBL
import Derived.Test.YtijdigdcmjdooaaGreatMxAL
import Derived.Deep.AppendLies
namespace Go.Proofs.YtijdigdcmjdooaaGreat
open Go.RowKit
set_option maxHeartbeats 1000000

def farO (o : Option Wy) : Int := (o.map Wy.far).getD 0
def ssO (o : Option Wy) : List (Int × Int) := (o.map Wy.ss).getD []
def lsO (N : Nt) (o : Option Wy) : List (Int × Int) := (o.map fun y => (liesQ N y.ss).getD []).getD []
theorem PathR.shape {N : Nt} {o : Option Wy} {v : Value} {w : World} (h : PathR N o v w) : ∃ (z : Option Addr) (c : Nat) (zl : Option Addr) (cl : Nat), v = .agg #[.bool o.isSome, .int .i64 (farO o), .slice z (ssO o).length c, .slice zl (lsO N o).length cl] ∧ EndsAt w z (ssO o) ∧ EndsAt w zl (lsO N o) ∧ (lsO N o).length ≤ 400 := by
  rcases h with ⟨rfl, rfl⟩ | ⟨y, z, c, zl, cl, rfl, rfl, h3, h4, h5⟩
  · exact ⟨none, 0, none, 0, rfl, fun k hk => by simp [ssO] at hk, fun k hk => by simp [lsO] at hk, by simp [lsO]⟩
  · exact ⟨z, c, zl, cl, rfl, h3, h4, h5⟩
section
variable {N : Nt} {hr : netOk N = (0, 0)} {q a wy q' a' wy' : Int}
theorem shortO_bd (hN : NetBd N) (hs : spotP N q a wy = true) (hs' : spotP N q' a' wy' = true) : 0 ≤ farO (shortP N hr q a wy q' a' wy') ∧ farO (shortP N hr q a wy q' a' wy') ≤ 5700 ∧ (ssO (shortP N hr q a wy q' a' wy')).length ≤ 19 ∧ ∀ p ∈ lsO N (shortP N hr q a wy q' a' wy'), 0 ≤ p.1 ∧ p.1 < N.jts.length ∧ 0 ≤ p.2 ∧ p.2 ≤ 40 := by
  cases h : shortP N hr q a wy q' a' wy' with
  | none => exact ⟨by simp [farO], by simp [farO], by simp [ssO], fun p hp => by simp [lsO] at hp⟩
  | some y =>
    obtain ⟨h1, h2, h3, h4, h5⟩ := short_small hN hN.few hs hs' h
    exact ⟨h1, h2, h4, liesQ_bd hN hr h5 h3⟩
theorem shortO_stretch (hN : NetBd N) (hs : spotP N q a wy = true) (hs' : spotP N q' a' wy' = true) (ho : (shortP N hr q a wy q' a' wy').isSome = true) : (stretchP N true (farO (shortP N hr q a wy q' a' wy')) (ssO (shortP N hr q a wy q' a' wy')) q a wy = [] ∧ lsO N (shortP N hr q a wy q' a' wy') = []) ∨ (0 < (stretchP N true (farO (shortP N hr q a wy q' a' wy')) (ssO (shortP N hr q a wy q' a' wy')) q a wy).length ∧ (stretchP N true (farO (shortP N hr q a wy q' a' wy')) (ssO (shortP N hr q a wy q' a' wy')) q a wy).length ≤ 19 ∧ partsLenP (stretchP N true (farO (shortP N hr q a wy q' a' wy')) (ssO (shortP N hr q a wy q' a' wy')) q a wy) = farO (shortP N hr q a wy q' a' wy')) := by
  obtain ⟨y, hy⟩ := Option.isSome_iff_exists.1 ho
  obtain ⟨h1, h2, h3, h4, h5⟩ := short_small hN hN.few hs hs' hy
  have h := short_stretch hN hN.few hs hs' hy
  rw [hy]
  rcases h with ⟨g1, g2⟩ | ⟨g1, g2, g3⟩
  · exact .inl ⟨g1, by show (liesQ N y.ss).getD [] = []; rw [g2]; rfl⟩
  · refine .inr ⟨by show 0 < (stretchP N true y.far y.ss q a wy).length; omega, by show (stretchP N true y.far y.ss q a wy).length ≤ 19; omega, ?_⟩
    show partsLenP (stretchP N true y.far y.ss q a wy) = y.far
    unfold partsLenP
    rw [if_pos (by simp only [partsOkP, Bool.and_eq_true, decide_eq_true_eq]; exact ⟨g2, by omega⟩), g3]
theorem shortO_turn (hs : spotP N q a wy = true) (hs' : spotP N q' a' wy' = true) : (shortP N hr q' a' (-wy') q a (-wy)).isSome = (shortP N hr q a wy q' a' wy').isSome ∧ farO (shortP N hr q' a' (-wy') q a (-wy)) = farO (shortP N hr q a wy q' a' wy') := by
  have h := short_turn hr hs hs'
  have h2 := congrArg Option.isSome h
  rw [Option.isSome_map, Option.isSome_map] at h2
  exact ⟨h2, by unfold farO; rw [h]⟩
theorem shortO_drive {xs : List Int} {far : Int} {t : DRes} (h : DriveA N xs q a wy far t) (h0 : t.code = 0) (h1 : t.q = q') (h2 : t.at' = a') (h3 : t.way = wy') : (shortP N hr q a wy q' a' wy').isSome = true ∧ ¬ far < farO (shortP N hr q a wy q' a' wy') := by
  subst h1 h2 h3
  obtain ⟨y, hy, hf⟩ := drive_short hr h h0
  rw [hy]
  exact ⟨rfl, by show ¬ far < y.far; omega⟩
theorem turn_ok (hr : netOk N = (0, 0)) (hs : spotP N q a wy = true) : turnP N q a wy = (q, a, -wy) := by
  unfold turnP spotOkP
  rw [hr, hs]
  simp
end
end Go.Proofs.YtijdigdcmjdooaaGreat

/- ASpot, Lies, wByte, wWhole. Own work. -/
namespace Go.Proofs.YtijdigdcmjdooaaGreat
open Go.RowKit
set_option maxHeartbeats 2000000

/-! ### Plain -/
def spotQ (N : Nt) (code : List Int) : Int := pickV code N.pcs.length ⟨0, 0⟩
def spotA (N : Nt) (code : List Int) : Int := wideV code (lenAt N (spotQ N code) + 1) (pickC code N.pcs.length ⟨0, 0⟩)
def spotW (N : Nt) (code : List Int) : Int := 1 - 2 * pickV code 2 (wideC code (pickC code N.pcs.length ⟨0, 0⟩))
theorem spotW_way (N : Nt) (code : List Int) : spotW N code = 1 ∨ spotW N code = -1 := by
  unfold spotW
  have := pickV_bd (code := code) (n := 2) (by omega) (wideC code (pickC code N.pcs.length ⟨0, 0⟩))
  omega
theorem spot_drawn {N : Nt} (h : NetBd N) (code : List Int) : spotP N (spotQ N code) (spotA N code) (spotW N code) = true := by
  have h1 := pickV_bd (code := code) (n := (N.pcs.length : Int)) (by have := h.some; omega) ⟨0, 0⟩
  have hq : 0 ≤ spotQ N code ∧ spotQ N code < N.pcs.length := h1
  obtain ⟨k, hk⟩ := Int.eq_ofNat_of_zero_le hq.1
  have hl := h.len_at (k := k) (by omega)
  rw [← hk] at hl
  have h2 := wideV_bd (code := code) (n := lenAt N (spotQ N code) + 1) (by omega) (pickC code N.pcs.length ⟨0, 0⟩)
  have ha : 0 ≤ spotA N code ∧ spotA N code < lenAt N (spotQ N code) + 1 := h2
  simp only [spotP, inR, Bool.and_eq_true, Bool.or_eq_true, beq_iff_eq, decide_eq_true_eq]
  exact ⟨⟨⟨hq.1, by omega⟩, spotW_way N code⟩, ha.1, by omega⟩
instance : Inhabited Jt := ⟨⟨0, ⟨#[]⟩, []⟩⟩
def liesD (code : List Int) (js : List Jt) : Nat → List Int × Cu
  | 0 => ([], ⟨0, 0⟩)
  | i + 1 => if (js[i]!).kind = 3 then ((liesD code js i).1 ++ [1 + pickV code 2 (liesD code js i).2], pickC code 2 (liesD code js i).2) else ((liesD code js i).1 ++ [0], (liesD code js i).2)
theorem liesD_len (code : List Int) (js : List Jt) (i : Nat) : (liesD code js i).1.length = i := by
  induction i with
  | zero => rfl
  | succ i ih => rw [liesD]; split <;> simp [ih]
theorem liesD_at (code : List Int) (js : List Jt) (i : Nat) : (liesD code js i).2.at' ≤ 2 * i := by
  induction i with
  | zero => exact Nat.le_refl _
  | succ i ih =>
    rw [liesD]
    split
    · have := pickC_at code 2 (liesD code js i).2
      dsimp only
      omega
    · dsimp only; omega
def liesL (N : Nt) (code : List Int) : List Int := (liesD code N.jts N.jts.length).1
def byteP (code : List Int) (i : Nat) : Int := if code.length = 0 then 0 else code[i % code.length]!
theorem byteP_bd {code : List Int} (h : Bys code) (i : Nat) : 0 ≤ byteP code i ∧ byteP code i < 256 := by
  unfold byteP
  split
  · omega
  · have hl : i % code.length < code.length := Nat.mod_lt _ (by omega)
    have : code[i % code.length]! = code[i % code.length] := by simp [hl]
    rw [this]
    exact h _ (List.getElem_mem hl)
def wholeP (code : List Int) (i : Nat) : Int := (byteP code i + 256 * byteP code (i + 1)) % (1 + 40 * byteP code (i + 2))
theorem wholeP_bd {code : List Int} (h : Bys code) (i : Nat) : 0 ≤ wholeP code i ∧ wholeP code i ≤ 10200 := by
  have h1 := byteP_bd h (i + 2)
  unfold wholeP
  have h2 := Int.emod_nonneg (byteP code i + 256 * byteP code (i + 1)) (b := 1 + 40 * byteP code (i + 2)) (by omega)
  have h3 := Int.emod_lt_of_pos (byteP code i + 256 * byteP code (i + 1)) (b := 1 + 40 * byteP code (i + 2)) (by omega)
  omega

/-! ### Walks -/
theorem wByte_any (a : Option Addr) (cap : Nat) (code : List Int) (i : Nat) (w : World) (hB : Bys code) (hn : code.length ≤ 1048576) (hi : i ≤ 1000) (hx : BytesAt w a code) :
    Calls Tryz.prog 12 #[.slice a code.length cap, .int .i64 i] w fun e w' => e = .returned (.int .i64 (byteP code i)) ∧ w = w' := by
  by_cases h0 : code.length = 0
  · have HV := hide (show byteP code i = 0 by unfold byteP; rw [if_pos h0])
    have q0 : ((code.length : Int) == 0) = true := by rw [beq_iff_eq]; omega
    clear hx hB
    go_enter Tryz.func12, Tryz.ntmps12
    go_wp2_with fail
    go_ret
    exact ⟨ret_i HV.out.symm, rfl⟩
  · have hl : i % code.length < code.length := Nat.mod_lt _ (by omega)
    have HV := hide (show byteP code i = code[i % code.length] by unfold byteP; rw [if_neg h0]; simp [hl])
    have q0 : ((code.length : Int) == 0) = false := by rw [beq_eq_false_iff_ne]; omega
    have hbd := hB _ (List.getElem_mem hl)
    obtain ⟨xb, xo, rfl, x0⟩ := hx _ hl
    have hmod : ((i : Int) % (code.length : Int)) = ((i % code.length : Nat) : Int) := by omega
    have htm : Int.tmod (i : Int) (code.length : Int) = ((i % code.length : Nat) : Int) := by rw [Int.tmod_eq_emod_of_nonneg (by omega)]; exact hmod
    generalize hm : i % code.length = m at *
    generalize code[m] = v at *
    have hne : ¬ (code.length : Int) = 0 := by omega
    clear hx hB hm
    go_enter Tryz.func12, Tryz.ntmps12
    go_wp2_with fail
    go_ret
    exact ⟨ret_i HV.out.symm, rfl⟩

theorem wWhole_any (a : Option Addr) (cap : Nat) (code : List Int) (i : Nat) (w : World) (hB : Bys code) (hn : code.length ≤ 1048576) (hi : i ≤ 900) (hx : BytesAt w a code) :
    Calls Tryz.prog 7 #[.slice a code.length cap, .int .i64 i] w fun e w' => e = .returned (.int .i64 (wholeP code i)) ∧ w = w' := by
  have HB := hide hB
  have HX := hide hx
  have HV := hide (show wholeP code i = (byteP code i + 256 * byteP code (i + 1)) % (1 + 40 * byteP code (i + 2)) from rfl)
  have b0 := byteP_bd hB i
  have b1 := byteP_bd hB (i + 1)
  have b2 := byteP_bd hB (i + 2)
  clear hB hx
  go_enter Tryz.func7, Tryz.ntmps7
  go_wp2_with fail
  refine (wByte_any a cap code i _ HB.out hn (by omega) HX.out).mono ?_
  rintro e w1 ⟨rfl, rfl⟩
  generalize byteP code i = x0 at *
  go_wp2_with fail
  rw [show (i : Int) + 1 = ((i + 1 : Nat) : Int) by omega]
  refine (wByte_any a cap code (i + 1) _ HB.out hn (by omega) HX.out).mono ?_
  rintro e w1 ⟨rfl, rfl⟩
  generalize byteP code (i + 1) = x1 at *
  go_wp2_with fail
  rw [show (i : Int) + 2 = ((i + 2 : Nat) : Int) by omega]
  refine (wByte_any a cap code (i + 2) _ HB.out hn (by omega) HX.out).mono ?_
  rintro e w1 ⟨rfl, rfl⟩
  generalize byteP code (i + 2) = x2 at *
  have hne : ¬ (1 + 40 * x2) = 0 := by omega
  go_wp2_with fail
  go_ret
  exact ⟨ret_i HV.out.symm, rfl⟩
end Go.Proofs.YtijdigdcmjdooaaGreat

/- ASpot, Lies: walks. Own work. -/
namespace Go.Proofs.YtijdigdcmjdooaaGreat
open Go.RowKit
set_option maxHeartbeats 4000000

theorem aSpot_any (a a' z : Option Addr) (N : Nt) (cap cap' zc : Nat) (code : List Int) (w : World) (hN : NetBd N) (hB : Bys code) (hn : code.length ≤ 1048576) (hp : PcsAt w a N.pcs) (hx : BytesAt w z code) :
    Calls Tryz.prog 6 #[.agg #[.slice a N.pcs.length cap, .slice a' N.jts.length cap'], .slice z code.length zc] w fun e w' =>
    e = .returned (.agg #[.int .i64 (spotQ N code), .int .i64 (spotA N code), .int .i64 (spotW N code)]) ∧ Below w.heap.size w w' := by
  have HB := hide hB
  have HX := hide hx
  have HP := hide hp
  have HNB := hide hN
  have h1 := hN.some
  have h9 := hN.few
  have HO := hide (off_of hx (B := w.heap.size + 1 + 1) (by omega))
  have hbA : Below w.heap.size w (((w.alloc (.cells #[.slice a N.pcs.length cap, .slice a' N.jts.length cap'] 26)).alloc (.cells #[.int .i64 0, .int .i64 0, .int .i64 0] 29)).alloc (.cells #[.slice z code.length zc, .int .i64 0, .int .u64 0] 61)) := (((Below.refl _ _).alloc (Nat.le_refl _) _).alloc (by simp) _).alloc (by simp; omega) _
  have HCA : Hid (CurAt (((w.alloc (.cells #[.slice a N.pcs.length cap, .slice a' N.jts.length cap'] 26)).alloc (.cells #[.int .i64 0, .int .i64 0, .int .i64 0] 29)).alloc (.cells #[.slice z code.length zc, .int .i64 0, .int .u64 0] 61)) (w.heap.size + 1 + 1) z code.length zc ⟨0, 0⟩) :=
    ⟨by simp [go_sem], by simp [go_sem], by simp [go_sem], by simp [go_sem], by simp [go_sem]⟩
  have HZ3 : Hid (((((w.alloc (.cells #[.slice a N.pcs.length cap, .slice a' N.jts.length cap'] 26)).alloc (.cells #[.int .i64 0, .int .i64 0, .int .i64 0] 29)).alloc (.cells #[.slice z code.length zc, .int .i64 0, .int .u64 0] 61)).heap.size = w.heap.size + 3) ∧ (((w.alloc (.cells #[.slice a N.pcs.length cap, .slice a' N.jts.length cap'] 26)).alloc (.cells #[.int .i64 0, .int .i64 0, .int .i64 0] 29)).alloc (.cells #[.slice z code.length zc, .int .i64 0, .int .u64 0] 61)).cell? ⟨w.heap.size, 0, none⟩ = some (.slice a N.pcs.length cap) ∧ (∀ o, o < 3 → (((w.alloc (.cells #[.slice a N.pcs.length cap, .slice a' N.jts.length cap'] 26)).alloc (.cells #[.int .i64 0, .int .i64 0, .int .i64 0] 29)).alloc (.cells #[.slice z code.length zc, .int .i64 0, .int .u64 0] 61)).cell? ⟨w.heap.size + 1, o, none⟩ = some (.int .i64 0)) ∧ (∀ o, (((w.alloc (.cells #[.slice a N.pcs.length cap, .slice a' N.jts.length cap'] 26)).alloc (.cells #[.int .i64 0, .int .i64 0, .int .i64 0] 29)).alloc (.cells #[.slice z code.length zc, .int .i64 0, .int .u64 0] 61)).frozen? ⟨w.heap.size + 1, o, none⟩ = false)) := by
    refine ⟨by simp, by simp [go_sem], ?_, ?_⟩
    · intro o ho
      have : o = 0 ∨ o = 1 ∨ o = 2 := by omega
      rcases this with rfl | rfl | rfl <;> simp [go_sem]
    · intro o; simp [go_sem]
  have t0 := HZ3.out.2.1
  have hzA := HZ3.out.1
  clear hB hx hp
  go_enter Tryz.func6, Tryz.ntmps6
  go_wp2_with fail
  generalize (((w.alloc (.cells #[.slice a N.pcs.length cap, .slice a' N.jts.length cap'] 26)).alloc (.cells #[.int .i64 0, .int .i64 0, .int .i64 0] 29)).alloc (.cells #[.slice z code.length zc, .int .i64 0, .int .u64 0] 61)) = w1 at *
  refine (pick_any _ z zc code ⟨0, 0⟩ N.pcs.length _ HB.out (Nat.zero_le _) hn HO.out (by omega) (by omega) HCA.out (HX.out.later hbA)).mono ?_
  rintro e w2 ⟨rfl, hc2, hm2⟩
  have HC2 := hide hc2
  have HX2 := hide ((HX.out.later hbA).mid hm2 HO.out)
  have hq := pickV_bd (code := code) (n := (N.pcs.length : Int)) (by omega) ⟨0, 0⟩
  have hca := pickC_at code N.pcs.length ⟨0, 0⟩
  have HQ := hide (show spotQ N code = pickV code N.pcs.length ⟨0, 0⟩ from rfl)
  have HA := hide (show spotA N code = wideV code (lenAt N (spotQ N code) + 1) (pickC code N.pcs.length ⟨0, 0⟩) from rfl)
  have HW := hide (show spotW N code = 1 - 2 * pickV code 2 (wideC code (pickC code N.pcs.length ⟨0, 0⟩)) from rfl)
  obtain ⟨k, hk⟩ := Int.eq_ofNat_of_zero_le hq.1
  have hkl : k < N.pcs.length := by omega
  have HQK := hide (show spotQ N code = k by rw [HQ.out]; exact hk)
  rw [HQK.out] at HA
  have hlen := hN.len_at hkl
  have hm2s := hm2.size
  have t0 := hm2.cell (.inl (by omega)) t0
  obtain ⟨pb, po, rfl, _, p1, _, _⟩ := (HP.out.later hbA) k hkl
  have hpb : pb < w.heap.size := by
    obtain ⟨pb', po', e, c0, _⟩ := HP.out k hkl
    obtain ⟨rfl, rfl⟩ : pb = pb' ∧ po = po' := by simpa using e
    exact cell_lt c0
  have p1 := hm2.cell (.inl (by omega)) p1
  rw [← lenAt_nat N k hkl] at p1
  have hki : (k : Int) < (N.pcs.length : Int) := by omega
  generalize hL : lenAt N k = L at *
  generalize pickC code N.pcs.length ⟨0, 0⟩ = c1 at *
  have hbw : Below w.heap.size w w2 := hbA.trans ((hm2.below (by omega)).mono (by omega))
  have HM2 := hide hm2
  rw [hk]
  clear hc2 hm2 hL hk hq
  go_wp2_with fail
  refine (wide_any _ z zc code c1 (L + 1) _ HB.out (by have := hca; simp at this; omega) hn HO.out (by omega) (by omega) HC2.out HX2.out).mono ?_
  rintro e w3 ⟨rfl, hc3, hm3⟩
  have HC3 := hide hc3
  have HX3 := hide (HX2.out.mid hm3 HO.out)
  have hwa := wideC_at code c1
  have hwv := wideV_bd (code := code) (n := L + 1) (by omega) c1
  have HM3 := hide (HM2.out.trans hm3)
  have hbw3 : Below w.heap.size w w3 := hbw.trans ((hm3.below (by omega)).mono (by omega))
  clear hc3 hm3
  go_wp2_with fail
  refine (pick_any _ z zc code (wideC code c1) 2 _ HB.out (by have := hca; simp at this; omega) hn HO.out (by omega) (by omega) HC3.out HX3.out).mono ?_
  rintro e w4 ⟨rfl, hc4, hm4⟩
  have hp2 := pickV_bd (code := code) (n := 2) (by omega) (wideC code c1)
  have HM4 := hide (HM3.out.trans hm4)
  have hbw4 : Below w.heap.size w w4 := hbw3.trans ((hm4.below (by have := HM3.out.size; omega)).mono (by omega))
  have r0 := HM4.out.cell (.inl (by omega)) (HZ3.out.2.2.1 0 (by omega))
  have r1 := HM4.out.cell (.inl (by omega)) (HZ3.out.2.2.1 1 (by omega))
  have r2 := HM4.out.cell (.inl (by omega)) (HZ3.out.2.2.1 2 (by omega))
  have f0 := HM4.out.frozen (.inl (by omega)) (HZ3.out.2.2.1 0 (by omega)) (HZ3.out.2.2.2 0)
  have f1 := HM4.out.frozen (.inl (by omega)) (HZ3.out.2.2.1 1 (by omega)) (HZ3.out.2.2.2 1)
  have f2 := HM4.out.frozen (.inl (by omega)) (HZ3.out.2.2.1 2 (by omega)) (HZ3.out.2.2.2 2)
  clear hc4 hm4
  generalize wideV code (L + 1) c1 = y at *
  generalize pickV code 2 (wideC code c1) = q2 at *
  go_wp2_with fail
  have hle : w.heap.size ≤ w.heap.size + 1 := by omega
  refine bodyPost_ret (v := .agg #[.int .i64 k, .int .i64 y, .int .i64 (1 - 2 * q2)]) (by simp [results, Tryz.results6, go_sem, r0, r1, r2]) rfl ⟨?_, ((hbw4.setCell hle _).setCell hle _).setCell hle _⟩
  rw [HQK.out, HA.out, HW.out]

theorem lies_any (a a' z : Option Addr) (N : Nt) (cap cap' zc : Nat) (code : List Int) (w : World) (hN : NetBd N) (hB : Bys code) (hn : code.length ≤ 1048576) (hj : JtsAt w a' N.jts) (hx : BytesAt w z code) :
    Calls Tryz.prog 11 #[.agg #[.slice a N.pcs.length cap, .slice a' N.jts.length cap'], .slice z code.length zc] w fun e w' =>
    ∃ v, e = .returned v ∧ w'.ownsRow w.heap.size 3 1 v (liesL N code).length ((liesL N code).map (Value.int .i64)) ∧ Below w.heap.size w w' := by
  obtain ⟨i0, hi, hz0, hz1, hz2⟩ := infos info_Int
  have HI := hide hi
  have HZ0 := hide hz0
  have HZ1 := hide hz1
  have HZ2 := hide hz2
  have HB := hide hB
  have HX := hide hx
  have HJ := hide hj
  have h18 := hN.joints
  have HO := hide (off_of hx (B := w.heap.size + 1) (by omega))
  have hbA : Below w.heap.size w ((w.alloc (.cells #[.slice a N.pcs.length cap, .slice a' N.jts.length cap'] 26)).alloc (.cells #[.slice z code.length zc, .int .i64 0, .int .u64 0] 61)) := ((Below.refl _ _).alloc (Nat.le_refl _) _).alloc (by simp) _
  have HCA : Hid (CurAt ((w.alloc (.cells #[.slice a N.pcs.length cap, .slice a' N.jts.length cap'] 26)).alloc (.cells #[.slice z code.length zc, .int .i64 0, .int .u64 0] 61)) (w.heap.size + 1) z code.length zc ⟨0, 0⟩) :=
    ⟨by simp [go_sem], by simp [go_sem], by simp [go_sem], by simp [go_sem], by simp [go_sem]⟩
  have hzA : ((w.alloc (.cells #[.slice a N.pcs.length cap, .slice a' N.jts.length cap'] 26)).alloc (.cells #[.slice z code.length zc, .int .i64 0, .int .u64 0] 61)).heap.size = w.heap.size + 2 := by simp
  clear hi hz0 hz1 hz2 hB hx hj
  go_enter Tryz.func11, Tryz.ntmps11
  go_wp2_with fail
  generalize ((w.alloc (.cells #[.slice a N.pcs.length cap, .slice a' N.jts.length cap'] 26)).alloc (.cells #[.slice z code.length zc, .int .i64 0, .int .u64 0] 61)) = w1 at *
  go_loopw [6, 8, 9, 16] (fun v _ _ i wr => ∃ (k : Nat), k ≤ N.jts.length ∧ i = .int .i64 k ∧ Hid (CurAt wr (w.heap.size + 1) z code.length zc (liesD code N.jts k).2) ∧ Hid (wr.ownsRow (w.heap.size + 2) 3 1 v k ((liesD code N.jts k).1.map (Value.int .i64))) ∧ Hid (Below (w.heap.size + 1) w1 wr)) (fun _ _ _ i _ => N.jts.length - (intOf i).toNat)
  case atStart => exact ⟨0, Nat.zero_le _, rfl, HCA.out, World.ownsRow_nil _ _ _ _, Below.refl _ _⟩
  case round =>
    obtain ⟨k, hk, rfl, HC, HOW, HBL⟩ := hrel
    have HBW := hide (hbA.trans (HBL.out.mono (by omega)))
    have hsz := HBL.out.size
    have hca := liesD_at code N.jts k
    by_cases hlt : k < N.jts.length
    · obtain ⟨jb, jo, ea, ec, rfl, k0, k1, k2, _⟩ := (HJ.out.later HBW.out) k hlt
      have hki : (k : Int) < (N.jts.length : Int) := by omega
      have hjb := cell_lt k0
      have hg : (N.jts[k]!) = N.jts[k] := by simp [hlt]
      have hml : k + 1 ≤ maxLen := by unfold maxLen; omega
      have hA := (Below.refl wr.heap.size wr).alloc (Nat.le_refl _) (.cells #[.int .i64 N.jts[k].kind, .string N.jts[k].name, .slice ea N.jts[k].ends.length ec] 97)
      have HX2 := hide ((HX.out.later HBW.out).later hA)
      by_cases h3 : N.jts[k].kind = 3
      · have HS := hide (show liesD code N.jts (k + 1) = ((liesD code N.jts k).1 ++ [1 + pickV code 2 (liesD code N.jts k).2], pickC code 2 (liesD code N.jts k).2) by rw [liesD, hg, if_pos h3])
        have q3 : (N.jts[k].kind == 3) = true := by rw [beq_iff_eq]; exact h3
        have HC2 := hide (HC.out.later hA)
        have HOW2 := hide (owns_later' HOW.out hA)
        have HBL2 := hide (HBL.out.trans (hA.mono (by omega)))
        have hsA : wr.heap.size < (wr.alloc (.cells #[.int .i64 N.jts[k].kind, .string N.jts[k].name, .slice ea N.jts[k].ends.length ec] 97)).heap.size := by simp
        clear hA HC HOW HBL h3 hg
        go_wp2_with fail
        generalize wr.alloc (.cells #[.int .i64 N.jts[k].kind, .string N.jts[k].name, .slice ea N.jts[k].ends.length ec] 97) = w2 at *
        refine (pick_any _ z zc code _ 2 _ HB.out (by omega) hn HO.out (by omega) (by omega) HC2.out HX2.out).mono ?_
        rintro e w3 ⟨rfl, hc3, hm3⟩
        have HC3 := hide hc3
        have HOW3 := hide (owns_mid HOW2.out hm3 (by omega))
        have HBL3 := hide (HBL2.out.trans (hm3.below (by omega)))
        have hp2 := pickV_bd (code := code) (n := 2) (by omega) (liesD code N.jts k).2
        have hs3 := hm3.size
        clear hc3 hm3 HC2 HOW2 HBL2
        generalize pickV code 2 (liesD code N.jts k).2 = q2 at *
        have HLT := hide (fun g h => (HOW3.out.lt g h).1)
        go_wp2_with (first
          | (at_builtin; (refine wpList_append_lies _ rfl _ _ _ rfl (w.heap.size + 2) 3 i0 _ 1 8 Tryz.underlying39 HI.out HZ0.out HZ1.out HZ2.out rfl (by omega) _ k ((liesD code N.jts k).1.map (Value.int .i64)) rfl (HOW3.out.alloc _) ⟨w3.heap.size, 0, none⟩ 1 1 [.int .i64 (1 + q2)] rfl rfl (news_at rfl) (by simp [Value.oneCell']) (by omega) hml (by omega) (by simp; omega) _ rfl ?_); intro g2 c2 w4 hown2 hgrow2 _ hlt2))
        have hA3 := (Below.refl w3.heap.size w3).alloc (Nat.le_refl _) (.cells #[.int .i64 (1 + q2)] 3)
        refine ⟨⟨k + 1, by omega, by go_num, ?_, ?_, ?_⟩, by simp [intOf]; omega⟩
        · show CurAt _ _ _ _ _ _
          rw [HS.out]
          have h := HC3.out.later hA3
          have hne : some (w.heap.size + 1) ≠ Value.ownBlock _ := fun e => by have := HLT.out _ e.symm; omega
          have hl1 : w.heap.size + 1 < (w3.alloc (.cells #[.int .i64 (1 + q2)] 3)).heap.size := cell_lt h.c0
          exact ⟨hgrow2.cell h.c0 hne, hgrow2.cell h.c1 hne, hgrow2.cell h.c2 hne, (hgrow2.frozen_far ⟨w.heap.size + 1, 1, none⟩ hl1 hne).trans h.f1, (hgrow2.frozen_far ⟨w.heap.size + 1, 2, none⟩ hl1 hne).trans h.f2⟩
        · show World.ownsRow _ _ _ _ _ _ _
          rw [HS.out, List.map_append]
          exact hown2
        · exact (HBL3.out.trans (hA3.mono (by omega))).grown hgrow2 (by simp; omega) (fun g e => by have := HLT.out g e; omega)
      · have HS := hide (show liesD code N.jts (k + 1) = ((liesD code N.jts k).1 ++ [0], (liesD code N.jts k).2) by rw [liesD, hg, if_neg h3])
        have q3 : (N.jts[k].kind == 3) = false := by rw [beq_eq_false_iff_ne]; exact h3
        have HLT := hide (fun g h => (HOW.out.lt g h).1)
        have hbs : w.heap.size + 2 ≤ wr.heap.size := by omega
        clear hA h3 hg
        go_wp2_with (first
          | (at_builtin; (refine wpList_append_lies _ rfl _ _ _ rfl (w.heap.size + 2) 3 i0 _ 1 8 Tryz.underlying39 HI.out HZ0.out HZ1.out HZ2.out rfl (by omega) _ k ((liesD code N.jts k).1.map (Value.int .i64)) rfl ((HOW.out.alloc _).alloc _) ⟨_, 0, none⟩ 1 1 [.int .i64 0] rfl rfl (news_at (by simp)) (by simp [Value.oneCell']) (by omega) hml (by omega) (by simp; omega) _ rfl ?_); intro g2 c2 w4 hown2 hgrow2 _ hlt2))
        have hA3 := ((Below.refl wr.heap.size wr).alloc (Nat.le_refl _) (.cells #[.int .i64 N.jts[k].kind, .string N.jts[k].name, .slice ea N.jts[k].ends.length ec] 97)).alloc (by simp) (.cells #[.int .i64 0] 3)
        refine ⟨⟨k + 1, by omega, by go_num, ?_, ?_, ?_⟩, by simp [intOf]; omega⟩
        · show CurAt _ _ _ _ _ _
          rw [HS.out]
          have h := HC.out.later hA3
          have hne : some (w.heap.size + 1) ≠ Value.ownBlock _ := fun e => by have := HLT.out _ e.symm; omega
          have hl1 : w.heap.size + 1 < ((wr.alloc (.cells #[.int .i64 N.jts[k].kind, .string N.jts[k].name, .slice ea N.jts[k].ends.length ec] 97)).alloc (.cells #[.int .i64 0] 3)).heap.size := cell_lt h.c0
          exact ⟨hgrow2.cell h.c0 hne, hgrow2.cell h.c1 hne, hgrow2.cell h.c2 hne, (hgrow2.frozen_far ⟨w.heap.size + 1, 1, none⟩ hl1 hne).trans h.f1, (hgrow2.frozen_far ⟨w.heap.size + 1, 2, none⟩ hl1 hne).trans h.f2⟩
        · show World.ownsRow _ _ _ _ _ _ _
          rw [HS.out, List.map_append]
          exact hown2
        · exact (HBL.out.trans (hA3.mono (by omega))).grown hgrow2 (by simp; omega) (fun g e => by have := HLT.out g e; omega)
    · obtain rfl : k = N.jts.length := by omega
      go_wp2_with fail
      go_ret
      refine ⟨_, rfl, ?_, HBW.out⟩
      have hl : (liesL N code).length = N.jts.length := liesD_len code N.jts N.jts.length
      rw [hl]
      exact owns_low HOW.out (by omega)
end Go.Proofs.YtijdigdcmjdooaaGreat
