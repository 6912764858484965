/- spec: numbers, pieces, ends of a text. Own work. -/
import Derived.Test.YtcodpnkfpmjleaaGreatDoorRnS
import Derived.Test.YtcodpnkfpmjleaaGreatDoorMxAB
import Derived.Deep.RegionHeld3
import Derived.Deep.RegionLaw
import Derived.Deep.DeepCutAuto
namespace Go.Proofs.YtcodpnkfpmjleaaGreatDoor
open Go.RowKit
set_option maxHeartbeats 2000000
set_option maxRecDepth 100000

theorem all_snoc {s : ByteArray} {k : Nat} (hk : k < s.size) (f : UInt8 → Bool) : ((bs s).take (k + 1)).all f = (((bs s).take k).all f && f s[k]) := by
  have hk' : k < (bs s).length := by rw [bs_len]; exact hk
  rw [List.take_succ_eq_append_getElem hk', List.all_append]
  simp [bs]
  rfl
theorem val_snoc {s : ByteArray} {k : Nat} (hk : k < s.size) : valD ((bs s).take (k + 1)) = 10 * valD ((bs s).take k) + ((s[k].toNat : Int) - 48) := by
  have hk' : k < (bs s).length := by rw [bs_len]; exact hk
  rw [List.take_succ_eq_append_getElem hk', valD_snoc]
  simp [bs]
  rfl
theorem num_bad {s : ByteArray} {k : Nat} (hk : k < s.size) (h : isD s[k] = false) : numOk (bs s) = false := by
  have : (bs s).all isD = false := by
    rw [List.all_eq_false]
    exact ⟨s[k], by show s.data[k] ∈ s.data.toList; simp, by rw [h]; simp⟩
  simp [numOk, this]
theorem num_at {s : ByteArray} (h0 : 0 < s.size) : (bs s).head? = some s[0] := by
  have h0' : 0 < (bs s).length := by rw [bs_len]; exact h0
  rw [List.head?_eq_getElem?, List.getElem?_eq_getElem h0']
  simp [bs]
  rfl
theorem num_end {s : ByteArray} (h : (bs s).all isD = true) : numOk (bs s) = (decide (1 ≤ s.size) && (decide (s.size ≤ 8) && (decide ((bs s).head? ≠ some 48) || decide (s.size = 1)))) := by
  simp only [numOk, h, Bool.true_and, bs_len, Bool.and_assoc]
theorem l2num_any (s : ByteArray) (w : World) (hs : s.size ≤ 1048576) :
    Calls Tryz.prog 72 #[.string s] w fun e w' => ∃ n : Int, e = .returned (.tuple #[.int .i64 n, .bool (numOk (bs s))]) ∧ (numOk (bs s) = true → n = valD (bs s)) ∧ w = w' := by
  go_enter Tryz.func72, Tryz.ntmps72
  go_wp2_with fail
  go_loop [4, 5] (fun q4 q5 => ∃ (k : Nat) (n : Int), k ≤ s.size ∧ q5 = .int .i64 k ∧ q4 = .int .i64 n ∧ Hid (((bs s).take k).all isD = true) ∧ Hid (k ≤ 8 → n = valD ((bs s).take k))) (fun _ q5 => s.size - (intOf q5).toNat)
  case atStart => exact ⟨0, 0, Nat.zero_le _, rfl, rfl, (by show _ = _; simp), (fun _ => by simp [valD])⟩
  case round =>
    obtain ⟨k, n, hk, rfl, rfl, HA, HV⟩ := hrel
    by_cases hlt : k < s.size
    · have hki : (k : Int) < (s.size : Int) := by omega
      have HS := hide (all_snoc hlt isD)
      have HW := hide (val_snoc hlt)
      have HBD := hide (fun h => num_bad hlt h)
      have hc256 : s[k].toNat < 256 := UInt8.toNat_lt _
      by_cases c0 : (s[k].toNat : Int) < 48
      · have g0 : decide ((s[k].toNat : Int) < 48) = true := decide_eq_true c0
        have HN := hide (HBD.out (by simp only [isD, Bool.and_eq_false_iff, decide_eq_false_iff_not]; omega))
        clear c0
        go_wp2_with fail
        go_ret2
        exact ⟨0, by rw [HN.out]; rfl, (fun h => by rw [HN.out] at h; cases h), rfl⟩
      · have g0 : decide ((s[k].toNat : Int) < 48) = false := decide_eq_false c0
        by_cases c9 : (s[k].toNat : Int) > 57
        · have g9 : decide ((s[k].toNat : Int) > 57) = true := decide_eq_true c9
          have HN := hide (HBD.out (by simp only [isD, Bool.and_eq_false_iff, decide_eq_false_iff_not]; omega))
          clear c9 c0
          go_wp2_with fail
          go_ret2
          exact ⟨0, by rw [HN.out]; rfl, (fun h => by rw [HN.out] at h; cases h), rfl⟩
        · have g9 : decide ((s[k].toNat : Int) > 57) = false := decide_eq_false c9
          have HD := hide (show isD s[k] = true by simp only [isD, Bool.and_eq_true, decide_eq_true_eq]; omega)
          have hu : IntKind.u8.wrap ((s[k].toNat : Int) - 48) = (s[k].toNat : Int) - 48 := by rw [IntKind.wrap_u8]; omega
          have hu2 : IntKind.i64.wrap ((s[k].toNat : Int) - 48) = (s[k].toNat : Int) - 48 := by rw [IntKind.wrap_i64]; omega
          have HB := hide (valD_bd ((bs s).take k) HA.out)
          have HNV : Hid (k + 1 ≤ 8 → wrap64 (wrap64 (10 * n) + ((s[k].toNat : Int) - 48)) = valD ((bs s).take (k + 1))) := fun h8 => by
            have h1 := HV.out (by omega)
            have h2 := HB.out
            have h3 : ((bs s).take k).length ≤ 7 := by rw [List.length_take]; omega
            have h4 : (10 : Int) ^ ((bs s).take k).length ≤ 10 ^ 7 := by exact_mod_cast Nat.pow_le_pow_right (by omega) h3
            have h5 : (10 : Int) ^ 7 = 10000000 := by decide
            rw [HW.out, h1]
            rw [show wrap64 (10 * valD ((bs s).take k)) = 10 * valD ((bs s).take k) by unfold wrap64; omega]
            unfold wrap64
            omega
          have HA2 : Hid (((bs s).take (k + 1)).all isD = true) := by show _ = _; rw [HS.out, HA.out, HD.out]; rfl
          clear c0 c9 HBD
          go_wp2_with fail
          go_roundw
          case rel => exact ⟨k + 1, _, by omega, by go_num, rfl, HA2, HNV⟩
          case measure => simp [intOf]; omega
    · obtain rfl : k = s.size := by omega
      have hA := HA.out
      have hV := HV.out
      rw [show (bs s).take s.size = bs s by rw [← bs_len]; simp] at hA hV
      have HE := hide (num_end hA)
      have HV2 := hide hV
      clear hA hV HA HV
      by_cases h1 : (1 : Int) ≤ (s.size : Int)
      · have g1 : decide ((s.size : Int) ≥ 1) = true := decide_eq_true h1
        have h0 : 0 < s.size := by omega
        have h0i : (0 : Int) < (s.size : Int) := by omega
        have HH := hide (num_at h0)
        have HU := hide (show s[0] = 48 ↔ s[0].toNat = 48 from u8_eq)
        by_cases h8 : (s.size : Int) ≤ 8
        · have g8 : decide ((s.size : Int) ≤ 8) = true := decide_eq_true h8
          have h88 : s.size ≤ 8 := by omega
          by_cases c0 : s[0].toNat = 48
          · have g0 : ((s[0].toNat : Int) != 48) = false := by simp; omega
            by_cases h11 : s.size = 1
            · have g11 : ((s.size : Int) == 1) = true := by rw [beq_iff_eq]; omega
              have HR := hide (show numOk (bs s) = true by rw [HE.out]; simp [h11])
              clear h1 h8 c0 h11
              go_wp2_with fail
              go_ret2
              exact ⟨n, by rw [HR.out]; rfl, fun _ => HV2.out (by omega), rfl⟩
            · have g11 : ((s.size : Int) == 1) = false := by rw [beq_eq_false_iff_ne]; omega
              have HR := hide (show numOk (bs s) = false by rw [HE.out, HH.out, HU.out.2 c0]; simp [h11])
              clear h1 h8 c0 h11
              go_wp2_with fail
              go_ret2
              exact ⟨n, by rw [HR.out]; rfl, (fun h => by rw [HR.out] at h; cases h), rfl⟩
          · have g0 : ((s[0].toNat : Int) != 48) = true := by simp; omega
            have HR := hide (show numOk (bs s) = true by
              rw [HE.out, HH.out, decide_eq_true (show 1 ≤ s.size by omega), decide_eq_true (show s.size ≤ 8 by omega), decide_eq_true (show some s[0] ≠ some 48 from fun h => c0 (HU.out.1 (Option.some.inj h)))]
              rfl)
            clear h1 h8 c0
            go_wp2_with fail
            go_ret2
            exact ⟨n, by rw [HR.out]; rfl, fun _ => HV2.out h88, rfl⟩
        · have g8 : decide ((s.size : Int) ≤ 8) = false := decide_eq_false h8
          have HR := hide (show numOk (bs s) = false by rw [HE.out, decide_eq_false (show ¬ s.size ≤ 8 by omega)]; simp)
          clear h1 h8
          go_wp2_with fail
          go_ret2
          exact ⟨n, by rw [HR.out]; rfl, (fun h => by rw [HR.out] at h; cases h), rfl⟩
      · have g1 : decide ((s.size : Int) ≥ 1) = false := decide_eq_false h1
        have HR := hide (show numOk (bs s) = false by rw [HE.out, decide_eq_false (show ¬ 1 ≤ s.size by omega)]; rfl)
        clear h1
        go_wp2_with fail
        go_ret2
        exact ⟨n, by rw [HR.out]; rfl, (fun h => by rw [HR.out] at h; cases h), rfl⟩
def ixV (o : Option Nat) : Int := match o with | none => -1 | some i => i
theorem findIdx_none {N : Nt} {name : ByteArray} (h : ∀ i (hi : i < N.pcs.length), (N.pcs[i].name.toList == name.toList) = false) : pieceIx N name = none := by
  unfold pieceIx
  rw [List.findIdx?_eq_none_iff]
  intro p hp
  obtain ⟨i, hi, rfl⟩ := List.getElem_of_mem hp
  exact h i hi
theorem findIdx_some {N : Nt} {name : ByteArray} {k : Nat} (hk : k < N.pcs.length) (h : ∀ i (hi : i < N.pcs.length), i < k → (N.pcs[i].name.toList == name.toList) = false) (he : (N.pcs[k].name.toList == name.toList) = true) : pieceIx N name = some k := by
  unfold pieceIx
  rw [List.findIdx?_eq_some_iff_getElem]
  exact ⟨hk, he, fun j hj => by rw [h j (by omega) hj]; simp⟩
theorem l2piece_any (a a' : Option Addr) (N : Nt) (cap m cap' : Nat) (name : ByteArray) (w : World) (hn : N.pcs.length ≤ 1048576) (hp : PcsAt w a N.pcs) :
    Calls Tryz.prog 73 #[.agg #[.slice a N.pcs.length cap, .slice a' m cap'], .string name] w fun e w' => e = .returned (.int .i64 (ixV (pieceIx N name))) ∧ Below w.heap.size w w' := by
  have HP := hide hp
  have hbW : Below w.heap.size w (w.alloc (.cells #[.slice a N.pcs.length cap, .slice a' m cap'] 26)) := (Below.refl _ _).alloc (Nat.le_refl _) _
  have HBW := hide hbW
  clear hp hbW
  go_enter Tryz.func73, Tryz.ntmps73
  go_wp2_with fail
  go_loopw [5, 6, 10] (fun _ _ i wr => ∃ (k : Nat), k ≤ N.pcs.length ∧ i = .int .i64 k ∧ Hid (∀ i (hi : i < N.pcs.length), i < k → (N.pcs[i].name.toList == name.toList) = false) ∧ Hid (Below w.heap.size w wr)) (fun _ _ i _ => N.pcs.length - (intOf i).toNat)
  case atStart => exact ⟨0, Nat.zero_le _, rfl, (fun i hi h => by omega), HBW⟩
  case round =>
    obtain ⟨k, hk, rfl, HNO, HB⟩ := hrel
    clear HBW
    by_cases hlt : k < N.pcs.length
    · have hki : (k : Int) < (N.pcs.length : Int) := by omega
      obtain ⟨b, off, rfl, c0, c1, c2, c3⟩ := (HP.out.later HB.out) k hlt
      have hlb := cell_lt c0
      have HA := hide (HB.out.alloc HB.out.size (.cells #[.string N.pcs[k].name, .int .i64 N.pcs[k].len, .int .i64 N.pcs[k].speed, .int .i64 N.pcs[k].brake] 63))
      cases he : (N.pcs[k].name.toList == name.toList) with
      | true =>
        have HR := hide (findIdx_some hlt HNO.out he)
        go_wp2_with fail
        go_ret
        exact ⟨by rw [HR.out]; rfl, HA.out⟩
      | false =>
        have HN2 : Hid (∀ i (hi : i < N.pcs.length), i < k + 1 → (N.pcs[i].name.toList == name.toList) = false) := fun i hi h => by
          by_cases e : i = k
          · subst e; exact he
          · exact HNO.out i hi (by omega)
        go_wp2_with fail
        go_roundw
        case rel => exact ⟨k + 1, by omega, by go_num, HN2, HA⟩
        case measure => simp [intOf]; omega
    · obtain rfl : k = N.pcs.length := by omega
      have HR := hide (findIdx_none (fun i hi => HNO.out i hi hi))
      go_wp2_with fail
      go_ret
      exact ⟨by rw [HR.out]; rfl, HB.out⟩
end Go.Proofs.YtcodpnkfpmjleaaGreatDoor

/- spec: an end of a text. Own work. -/
namespace Go.Proofs.YtcodpnkfpmjleaaGreatDoor
open Go.RowKit
set_option maxHeartbeats 4000000
set_option maxRecDepth 100000

theorem bs_get {s : ByteArray} {k : Nat} (hk : k < s.size) : (bs s)[k]? = some s[k] := by
  have hk' : k < (bs s).length := by rw [bs_len]; exact hk
  rw [List.getElem?_eq_getElem hk']
  simp [bs]
  rfl
theorem endW_short {N : Nt} {s : ByteArray} (h : s.size < 3) : endW N (bs s) = (1, (0, 0)) := by
  unfold endW
  rw [if_neg]
  rintro ⟨h1, _⟩
  rw [bs_len] at h1
  omega
theorem endW_no {N : Nt} {s : ByteArray} {m : Nat} (hm : s.size = m + 2) (hm0 : m < s.size) (hm1 : m + 1 < s.size) (h : ¬ ((s[m]'hm0) = 46 ∧ ((s[m + 1]'hm1) = 48 ∨ (s[m + 1]'hm1) = 49) ∧ nm (s.extract 0 m) = true)) : endW N (bs s) = (1, (0, 0)) := by
  unfold endW
  rw [if_neg]
  rintro ⟨_, h2, h3, h4⟩
  rw [bs_len, hm] at h2 h3 h4
  rw [show m + 2 - 2 = m by omega, bs_get hm0] at h2
  rw [show m + 2 - 1 = m + 1 by omega, bs_get hm1] at h3
  rw [show m + 2 - 2 = m by omega] at h4
  refine h ⟨Option.some.inj h2, h3.imp Option.some.inj Option.some.inj, ?_⟩
  rw [sb_slice, List.drop_zero, Nat.sub_zero]
  exact h4
theorem endW_yes {N : Nt} {s : ByteArray} {m : Nat} (hm : s.size = m + 2) (hm0 : m < s.size) (hm1 : m + 1 < s.size) (h1 : 1 ≤ m) (h2 : (s[m]'hm0) = 46) (h3 : (s[m + 1]'hm1) = 48 ∨ (s[m + 1]'hm1) = 49) (h4 : nm (s.extract 0 m) = true) : endW N (bs s) = match pieceIx N (s.extract 0 m) with | none => (3, (0, 0)) | some p => (0, (p, if (s[m + 1]'hm1) = 49 then 1 else 0)) := by
  have e : sb ((bs s).take m) = s.extract 0 m := by rw [sb_slice, List.drop_zero, Nat.sub_zero]
  unfold endW
  rw [bs_len, show s.size - 2 = m by omega, show s.size - 1 = m + 1 by omega, bs_get hm0, bs_get hm1, e]
  rw [if_pos ⟨by omega, by rw [h2], h3.imp (fun h => by rw [h]) (fun h => by rw [h]), h4⟩]
  cases pieceIx N (s.extract 0 m) with
  | none => rfl
  | some p =>
    dsimp only
    rcases h3 with h | h
    · rw [h]; rfl
    · rw [h]; rfl
theorem l2end_any (a a' : Option Addr) (N : Nt) (cap cap' mj : Nat) (s : ByteArray) (w : World) (hn : N.pcs.length ≤ 1048576) (hs : s.size ≤ 1048576) (hp : PcsAt w a N.pcs) :
    Calls Tryz.prog 74 #[.agg #[.slice a N.pcs.length cap, .slice a' mj cap'], .string s] w fun e w' => e = .returned (.tuple #[.agg #[.int .i64 (endW N (bs s)).2.1, .int .i64 (endW N (bs s)).2.2], .int .i64 (endW N (bs s)).1]) ∧ Below w.heap.size w w' := by
  have HP := hide hp
  have hbW : Below w.heap.size w ((w.alloc (.cells #[.slice a N.pcs.length cap, .slice a' mj cap'] 26)).alloc (.cells #[.int .i64 0, .int .i64 0] 75)) := ((Below.refl _ _).alloc (Nat.le_refl _) _).alloc (by simp) _
  have HBW := hide hbW
  clear hp hbW
  by_cases h3 : s.size < 3
  · have HR := hide (endW_short (N := N) h3)
    have g1 : decide ((s.size : Int) - 2 < 1) = true := decide_eq_true (by omega)
    have hw2 : IntKind.i64.wrap ((s.size : Int) - 2) = (s.size : Int) - 2 := by rw [IntKind.wrap_i64]; omega
    clear h3
    go_enter Tryz.func74, Tryz.ntmps74
    go_wp2_with fail
    exact bodyPost_ret (v := .tuple #[.agg #[.int .i64 0, .int .i64 0], .int .i64 1]) (by simp [results, Tryz.results74, go_sem]) rfl ⟨by rw [HR.out], by have h := HBW.out; simpa [go_sem] using h⟩
  · obtain ⟨m, hm⟩ : ∃ m, s.size = m + 2 := ⟨s.size - 2, by omega⟩
    have h1m : 1 ≤ m := by omega
    have hsub : (s.size : Int) - 2 = (m : Int) := by omega
    have hw2 : IntKind.i64.wrap (m : Int) = (m : Int) := by rw [IntKind.wrap_i64]; omega
    have hw3 : IntKind.i64.wrap ((m : Int) + 1) = (m : Int) + 1 := by rw [IntKind.wrap_i64]; omega
    have h0m : (0 : Int) ≤ (m : Int) + 1 := by omega
    have g1 : decide ((m : Int) < 1) = false := decide_eq_false (by omega)
    have hmi : (m : Int) < (s.size : Int) := by omega
    have hmi1 : (m : Int) + 1 < (s.size : Int) := by omega
    have hml : (m : Int) ≤ (s.size : Int) := by omega
    have hm0 : m < s.size := by omega
    have hm1 : m + 1 < s.size := by omega
    have HU := hide (show ((s[m]'hm0) = 46 ↔ (s[m]'hm0).toNat = 46) ∧ ((s[m + 1]'hm1) = 48 ↔ (s[m + 1]'hm1).toNat = 48) ∧ ((s[m + 1]'hm1) = 49 ↔ (s[m + 1]'hm1).toNat = 49) from ⟨u8_eq, u8_eq, u8_eq⟩)
    have HNO := hide (fun h => endW_no (N := N) hm hm0 hm1 h)
    have HYES := hide (fun h2 h3 h4 => endW_yes (N := N) hm hm0 hm1 h1m h2 h3 h4)
    clear h3 hm
    by_cases c46 : (s[m]'hm0).toNat = 46
    · have g46 : (((s[m]'hm0).toNat : Int) != 46) = false := by simp; omega
      by_cases c0 : (s[m + 1]'hm1).toNat = 48 ∨ (s[m + 1]'hm1).toNat = 49
      · have hcc : (((s[m + 1]'hm1).toNat : Int) != 48) = false ∨ ((((s[m + 1]'hm1).toNat : Int) != 48) = true ∧ (((s[m + 1]'hm1).toNat : Int) != 49) = false) := by simp; omega
        have hsx : (s.extract 0 m).size ≤ 1048576 := by rw [ByteArray.size_extract]; omega
        cases hnm : nm (s.extract 0 m) with
        | false =>
          have HR := hide (HNO.out (by rintro ⟨_, _, h⟩; rw [hnm] at h; cases h))
          have HNM := hide hnm
          clear c46 c0 hnm
          rcases hcc with g0 | ⟨g0, g9⟩
          all_goals
            go_enter Tryz.func74, Tryz.ntmps74
            go_wp2_with (first
              | (go_at_call 44; refine (l1name_any _ _ hsx).mono ?_; rintro e w2 ⟨rfl, hw2'⟩; subst hw2'; rw [HNM.out]))
            exact bodyPost_ret (v := .tuple #[.agg #[.int .i64 0, .int .i64 0], .int .i64 1]) (by simp [results, Tryz.results74, go_sem]) rfl ⟨by rw [HR.out], by have h := HBW.out; simpa [go_sem] using h⟩
        | true =>
          have HY := hide (HYES.out (HU.out.1.2 c46) (c0.imp HU.out.2.1.2 HU.out.2.2.2) hnm)
          have HNM := hide hnm
          have hsd : ∃ sd : Int, (sd = if (s[m + 1]'hm1) = 49 then 1 else 0) ∧ (((s[m + 1]'hm1).toNat : Int) - 48 = sd) ∧ 0 ≤ sd ∧ sd ≤ 1 := by
            rcases c0 with h | h
            · have h' : ¬ (s[m + 1]'hm1) = 49 := fun e => by have := HU.out.2.2.1 e; omega
              exact ⟨0, by rw [if_neg h'], by omega, by omega, by omega⟩
            · exact ⟨1, by rw [if_pos (HU.out.2.2.2 h)], by omega, by omega, by omega⟩
          obtain ⟨sd, hsd1, hsd2, hsd3, hsd4⟩ := hsd
          have HSD := hide hsd1
          have hu : IntKind.u8.wrap sd = sd := by rw [IntKind.wrap_u8]; omega
          have hu2 : IntKind.i64.wrap sd = sd := by rw [IntKind.wrap_i64]; omega
          clear c46 c0 hnm hsd1
          rcases hcc with g0 | ⟨g0, g9⟩
          all_goals
            go_enter Tryz.func74, Tryz.ntmps74
            go_upto_region 4 with (first
              | (go_at_call 44; refine (l1name_any _ _ hsx).mono ?_; rintro e w2 ⟨rfl, hw2'⟩; subst hw2'; rw [HNM.out]))
            have b0 : ((w.alloc (.cells #[.slice a N.pcs.length cap, .slice a' mj cap'] 26)).alloc (.cells #[.int .i64 0, .int .i64 0] 75)).cell? ⟨w.heap.size, 0, none⟩ = some (.slice a N.pcs.length cap) := by simp [go_sem]
            have b1 : ((w.alloc (.cells #[.slice a N.pcs.length cap, .slice a' mj cap'] 26)).alloc (.cells #[.int .i64 0, .int .i64 0] 75)).cell? ⟨w.heap.size, 1, none⟩ = some (.slice a' mj cap') := by simp [go_sem]
            have r0 : ((w.alloc (.cells #[.slice a N.pcs.length cap, .slice a' mj cap'] 26)).alloc (.cells #[.int .i64 0, .int .i64 0] 75)).cell? ⟨w.heap.size + 1, 0, none⟩ = some (.int .i64 0) := by simp [go_sem]
            have r1 : ((w.alloc (.cells #[.slice a N.pcs.length cap, .slice a' mj cap'] 26)).alloc (.cells #[.int .i64 0, .int .i64 0] 75)).cell? ⟨w.heap.size + 1, 1, none⟩ = some (.int .i64 0) := by simp [go_sem]
            have hf0 : ∀ o, ((w.alloc (.cells #[.slice a N.pcs.length cap, .slice a' mj cap'] 26)).alloc (.cells #[.int .i64 0, .int .i64 0] 75)).frozen? ⟨w.heap.size + 1, o, none⟩ = false := fun o => by simp [go_sem]
            have HF0 := hide hf0
            have hlt1 : w.heap.size + 1 < ((w.alloc (.cells #[.slice a N.pcs.length cap, .slice a' mj cap'] 26)).alloc (.cells #[.int .i64 0, .int .i64 0] 75)).heap.size := by simp
            clear hf0
            generalize ((w.alloc (.cells #[.slice a N.pcs.length cap, .slice a' mj cap'] 26)).alloc (.cells #[.int .i64 0, .int .i64 0] 75)) = w1 at *
            have HPW := hide (HP.out.later HBW.out)
            have h11 : Below w1.heap.size w1 w1.drew := (Below.refl _ _).drew
            go_cut [7] from 8 (fun s7 wz => s7 = .int .i64 (ixV (pieceIx N (s.extract 0 m))) ∧ Hid (Below w1.heap.size w1 wz))
            case first =>
              go_region_law (first
                | (go_simp; go_at_call 73; refine (l2piece_any a a' N cap mj cap' _ _ hn (HPW.out.later h11)).mono ?_; rintro e wT ⟨rfl, hbT⟩; have HBT := hide (h11.trans hbT); clear hbT))
              all_goals
                go_wp2_with fail
                go_meet
                case rel => exact ⟨rfl, HBT⟩
            case rest =>
              obtain ⟨rfl, HBZ⟩ := hcut
              rename World => w2
              replace r0 := cell_later' HBZ.out r0
              replace r1 := cell_later' HBZ.out r1
              have f0 : w2.frozen? ⟨w.heap.size + 1, 0, none⟩ = false := by rw [HBZ.out.frozen (p := ⟨w.heap.size + 1, 0, none⟩) hlt1]; exact HF0.out 0
              have f1 : w2.frozen? ⟨w.heap.size + 1, 1, none⟩ = false := by rw [HBZ.out.frozen (p := ⟨w.heap.size + 1, 1, none⟩) hlt1]; exact HF0.out 1
              have HB2 := hide (HBW.out.trans (HBZ.out.mono HBW.out.size))
              have hr2 := cell_lt r0
              clear b0 b1 HBZ HPW h11
              cases hix : pieceIx N (s.extract 0 m) with
              | none =>
                have HR := hide (show endW N (bs s) = (3, (0, 0)) by rw [HY.out, hix])
                have gp : decide ((-1 : Int) < 0) = true := by decide
                have HBS := hide ((HB2.out.setCell (p := ⟨w.heap.size + 1, 0, none⟩) (by show w.heap.size ≤ w.heap.size + 1; omega) (.int .i64 0)).setCell (p := ⟨w.heap.size + 1, 1, none⟩) (by show w.heap.size ≤ w.heap.size + 1; omega) (.int .i64 0))
                simp only [ixV]
                go_wp2_with fail
                exact bodyPost_ret (v := .tuple #[.agg #[.int .i64 0, .int .i64 0], .int .i64 3]) (by simp [results, Tryz.results74, go_sem, r0, r1]) rfl ⟨by rw [HR.out], HBS.out⟩
              | some p =>
                have HR := hide (show endW N (bs s) = (0, ((p : Int), sd)) by rw [HY.out, hix]; dsimp only; rw [← HSD.out])
                have gp : decide ((p : Int) < 0) = false := decide_eq_false (by omega)
                have HBS := hide ((HB2.out.setCell (p := ⟨w.heap.size + 1, 0, none⟩) (by show w.heap.size ≤ w.heap.size + 1; omega) (.int .i64 p)).setCell (p := ⟨w.heap.size + 1, 1, none⟩) (by show w.heap.size ≤ w.heap.size + 1; omega) (.int .i64 sd))
                simp only [ixV]
                go_wp2_with fail
                exact bodyPost_ret (v := .tuple #[.agg #[.int .i64 p, .int .i64 sd], .int .i64 0]) (by simp [results, Tryz.results74, go_sem, r0, r1]) rfl ⟨by rw [HR.out], HBS.out⟩
      · have g0 : (((s[m + 1]'hm1).toNat : Int) != 48) = true := by simp; omega
        have g9 : (((s[m + 1]'hm1).toNat : Int) != 49) = true := by simp; omega
        have HR := hide (HNO.out (by rintro ⟨_, h, _⟩; exact c0 (h.imp HU.out.2.1.1 HU.out.2.2.1)))
        clear c46 c0
        go_enter Tryz.func74, Tryz.ntmps74
        go_wp2_with fail
        exact bodyPost_ret (v := .tuple #[.agg #[.int .i64 0, .int .i64 0], .int .i64 1]) (by simp [results, Tryz.results74, go_sem]) rfl ⟨by rw [HR.out], by have h := HBW.out; simpa [go_sem] using h⟩
    · have g46 : (((s[m]'hm0).toNat : Int) != 46) = true := by simp; omega
      have HR := hide (HNO.out (by rintro ⟨h, _, _⟩; exact c46 (HU.out.1.1 h)))
      clear c46
      go_enter Tryz.func74, Tryz.ntmps74
      go_wp2_with fail
      exact bodyPost_ret (v := .tuple #[.agg #[.int .i64 0, .int .i64 0], .int .i64 1]) (by simp [results, Tryz.results74, go_sem]) rfl ⟨by rw [HR.out], by have h := HBW.out; simpa [go_sem] using h⟩
end Go.Proofs.YtcodpnkfpmjleaaGreatDoor
