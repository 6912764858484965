/- impl: what a reader panics with; want. Own work. -/
import Derived.Test.YtcodpnkfpmjleaaGreatDoorRnX
import Derived.Test.YtcodpnkfpmjleaaGreatDoorMxAN
import Derived.WalkSmall
namespace Go.Proofs.YtcodpnkfpmjleaaGreatDoor
open Go.RowKit Go.Sort
set_option maxHeartbeats 4000000
set_option maxRecDepth 100000

/-- What a reader panics with. -/
def leaveV (code line : Int) : Value := .iface 125 (.agg #[.iface 81 (.agg #[.int .i64 code, .int .i64 line])])
def leaveC (code line : Int) : List PanicEntry := [{ v := leaveV code line, recovered := false }]
theorem want_ok (br : Option Addr) (code : Int) (w : World) :
    Calls Tryz.prog 63 #[.pointer br, .bool true, .int .i64 code] w fun e w' => (∃ v, e = .returned v) ∧ w = w' := by
  go_enter Tryz.func63, Tryz.ntmps63
  go_wp2_with fail
  go_end0
  exact ⟨⟨_, rfl⟩, rfl⟩
theorem want_noR (br : Nat) (code line : Int) (w : World) (hc : w.cell? ⟨br, 0, none⟩ = some (.int .i64 line)) :
    Calls Tryz.prog 63 #[.pointer (some ⟨br, 0, none⟩), .bool false, .int .i64 code] w fun e w' => e = .panicked (leaveC code line) ∧ w = w' := by
  have hl := cell_lt hc
  go_enter Tryz.func63, Tryz.ntmps63
  go_wp2_with fail
  exact ⟨rfl, rfl, rfl⟩
theorem number_any (br : Nat) (s : ByteArray) (line : Int) (w : World) (hs : s.size ≤ 1048576) (hc : w.cell? ⟨br, 0, none⟩ = some (.int .i64 line)) :
    Calls Tryz.prog 130 #[.pointer (some ⟨br, 0, none⟩), .string s] w fun e w' => ((numOk (bs s) = true ∧ e = .returned (.int .i64 (valD (bs s)))) ∨ (numOk (bs s) = false ∧ e = .panicked (leaveC 1 line))) ∧ w = w' := by
  have HC := hide hc
  have hl := cell_lt hc
  clear hc
  cases h18 : inR (s.size : Int) 1 8 with
  | false =>
    have HR := hide (show numOk (bs s) = false by
      simp only [inR, Bool.and_eq_false_iff, decide_eq_false_iff_not] at h18
      simp only [numOk, bs_len, Bool.and_eq_false_iff, decide_eq_false_iff_not]
      rcases h18 with h | h
      · exact .inl (.inl (.inr (by omega)))
      · exact .inl (.inr (by omega)))
    have H18 := hide h18
    clear h18
    go_enter Tryz.func130, Tryz.ntmps130
    go_wp2_with (first
      | (go_at_call 48; refine (inRange_any _ _ _ _).mono ?_; rintro e w2 ⟨rfl, hw⟩; subst hw; rw [H18.out])
      | (go_at_call 63; refine (want_noR br 1 line _ HC.out).mono ?_; rintro e w2 ⟨rfl, hw⟩; subst hw))
    exact ⟨rfl, .inr ⟨HR.out, rfl⟩, rfl⟩
  | true =>
    have h8 : 1 ≤ s.size ∧ s.size ≤ 8 := by simp [inR] at h18; omega
    have h0 : 0 < s.size := by omega
    have h0i : (0 : Int) < (s.size : Int) := by omega
    have H18 := hide h18
    have HH := hide (num_at h0)
    have HU := hide (show s[0] = 48 ↔ s[0].toNat = 48 from u8_eq)
    have HSL := hide (show s.toList = bs s from by rw [Lib.toList_data]; rfl)
    clear h18
    by_cases hz : s.toList = [48]
    · have gz : (s.toList == [48]) = true := by rw [beq_iff_eq]; exact hz
      have HOK : Hid ((decide ((bs s).head? ≠ some 48) || decide (s.size = 1)) = true) := by
        show _ = _
        have : s.size = 1 := by rw [← bs_len, ← HSL.out, hz]; rfl
        simp [this]
      clear hz
      go_enter Tryz.func130, Tryz.ntmps130
      go_wp2_with (first
        | (go_at_call 48; refine (inRange_any _ _ _ _).mono ?_; rintro e w2 ⟨rfl, hw⟩; subst hw; rw [H18.out])
        | (go_at_call 63; with_reducible (refine (want_ok (some ⟨br, 0, none⟩) 1 _).mono ?_); rintro e w2 ⟨⟨v2, rfl⟩, hw⟩; subst hw)
        | (go_at_call 63; with_reducible (refine (want_noR br 1 line _ HC.out).mono ?_); rintro e w2 ⟨rfl, hw⟩; subst hw))
      go_loop [5, 6, 23] (fun q5 _ q23 => ∃ k : Nat, k ≤ s.size ∧ q23 = .int .i64 k ∧ q5 = .int .i64 (valD ((bs s).take k)) ∧ Hid (((bs s).take k).all isD = true)) (fun _ _ q23 => s.size - (intOf q23).toNat)
      case atStart => exact ⟨0, Nat.zero_le _, rfl, by simp [valD], (by show _ = _; simp)⟩
      case round =>
        obtain ⟨k, hk, rfl, rfl, HA⟩ := hrel
        by_cases hlt : k < s.size
        · have hki : (k : Int) < (s.size : Int) := by omega
          have HS := hide (all_snoc hlt isD)
          have HW := hide (val_snoc hlt)
          have HBD := hide (fun h => num_bad hlt h)
          have hc256 : s[k].toNat < 256 := UInt8.toNat_lt _
          have hvb := valD_bd ((bs s).take k) HA.out
          have hp10 : (10 : Int) ^ ((bs s).take k).length ≤ 10 ^ 7 := by
            have h3 : ((bs s).take k).length ≤ 7 := by rw [List.length_take]; omega
            exact_mod_cast Nat.pow_le_pow_right (by omega) h3
          have h107 : (10 : Int) ^ 7 = 10000000 := by decide
          by_cases cd : 48 ≤ s[k].toNat ∧ s[k].toNat ≤ 57
          · have g1 : decide ((48 : Int) ≤ (s[k].toNat : Int)) = true := decide_eq_true (by omega)
            have g2 : decide ((s[k].toNat : Int) ≤ 57) = true := decide_eq_true (by omega)
            have hu : IntKind.u8.wrap ((s[k].toNat : Int) - 48) = (s[k].toNat : Int) - 48 := by rw [IntKind.wrap_u8]; omega
            have HD := hide (show isD s[k] = true by simp only [isD, Bool.and_eq_true, decide_eq_true_eq]; exact cd)
            have HA2 : Hid (((bs s).take (k + 1)).all isD = true) := by show _ = _; rw [HS.out, HA.out, HD.out]; rfl
            have hv : 0 ≤ valD ((bs s).take k) ∧ valD ((bs s).take k) < 10000000 := by omega
            have hcr : 48 ≤ (s[k].toNat : Int) ∧ (s[k].toNat : Int) ≤ 57 := by omega
            clear cd hvb hp10 h107
            generalize valD ((bs s).take k) = V at *
            go_wp2_with (first
              | (go_at_call 48; refine (inRange_any _ _ _ _).mono ?_; rintro e w2 ⟨rfl, hw⟩; subst hw; rw [H18.out])
              | (go_at_call 63; with_reducible (refine (want_ok (some ⟨br, 0, none⟩) 1 _).mono ?_); rintro e w2 ⟨⟨v2, rfl⟩, hw⟩; subst hw)
              | (go_at_call 63; with_reducible (refine (want_noR br 1 line _ HC.out).mono ?_); rintro e w2 ⟨rfl, hw⟩; subst hw))
            go_roundw
            case rel => exact ⟨k + 1, by omega, by go_num, by rw [HW.out], HA2⟩
            case measure => simp [intOf]; omega
          · have HR := hide (HBD.out (by simp only [isD, Bool.and_eq_false_iff, decide_eq_false_iff_not]; omega))
            clear hvb hp10 h107
            by_cases c1 : 48 ≤ s[k].toNat
            · have g1 : decide ((48 : Int) ≤ (s[k].toNat : Int)) = true := decide_eq_true (by omega)
              have g2 : decide ((s[k].toNat : Int) ≤ 57) = false := decide_eq_false (by omega)
              clear cd c1
              go_wp2_with (first
              | (go_at_call 48; refine (inRange_any _ _ _ _).mono ?_; rintro e w2 ⟨rfl, hw⟩; subst hw; rw [H18.out])
              | (go_at_call 63; with_reducible (refine (want_ok (some ⟨br, 0, none⟩) 1 _).mono ?_); rintro e w2 ⟨⟨v2, rfl⟩, hw⟩; subst hw)
              | (go_at_call 63; with_reducible (refine (want_noR br 1 line _ HC.out).mono ?_); rintro e w2 ⟨rfl, hw⟩; subst hw))
              exact ⟨rfl, .inr ⟨HR.out, rfl⟩, rfl⟩
            · have g1 : decide ((48 : Int) ≤ (s[k].toNat : Int)) = false := decide_eq_false (by omega)
              clear cd c1
              go_wp2_with (first
              | (go_at_call 48; refine (inRange_any _ _ _ _).mono ?_; rintro e w2 ⟨rfl, hw⟩; subst hw; rw [H18.out])
              | (go_at_call 63; with_reducible (refine (want_ok (some ⟨br, 0, none⟩) 1 _).mono ?_); rintro e w2 ⟨⟨v2, rfl⟩, hw⟩; subst hw)
              | (go_at_call 63; with_reducible (refine (want_noR br 1 line _ HC.out).mono ?_); rintro e w2 ⟨rfl, hw⟩; subst hw))
              exact ⟨rfl, .inr ⟨HR.out, rfl⟩, rfl⟩
        · obtain rfl : k = s.size := by omega
          have hA := HA.out
          rw [show (bs s).take s.size = bs s by rw [← bs_len]; simp] at hA
          rw [show (bs s).take s.size = bs s by rw [← bs_len]; simp]
          have HR := hide (show numOk (bs s) = true by rw [num_end hA, HOK.out, decide_eq_true h8.1, decide_eq_true h8.2]; rfl)
          clear hA HA hlt hk
          go_wp2_with fail
          go_ret
          exact ⟨.inl ⟨HR.out, rfl⟩, rfl⟩
    · have gz : (s.toList == [48]) = false := by rw [beq_eq_false_iff_ne]; exact hz
      by_cases c0 : s[0].toNat = 48
      · have g0 : ((s[0].toNat : Int) != 48) = false := by simp; omega
        have HR := hide (show numOk (bs s) = false by
          have hl1 : ¬ (bs s).length = 1 := fun h1 => hz (by
            rw [HSL.out]
            obtain ⟨x, hx⟩ := List.length_eq_one_iff.1 h1
            have h2 := HH.out
            rw [hx] at h2 ⊢
            simp at h2
            rw [h2, HU.out.2 c0])
          simp only [numOk, Bool.and_eq_false_iff]
          right
          rw [HH.out, HU.out.2 c0]
          simp [hl1])
        clear c0 hz
        go_enter Tryz.func130, Tryz.ntmps130
        go_wp2_with (first
          | (go_at_call 48; refine (inRange_any _ _ _ _).mono ?_; rintro e w2 ⟨rfl, hw⟩; subst hw; rw [H18.out])
          | (go_at_call 63; with_reducible (refine (want_ok (some ⟨br, 0, none⟩) 1 _).mono ?_); rintro e w2 ⟨⟨v2, rfl⟩, hw⟩; subst hw)
          | (go_at_call 63; with_reducible (refine (want_noR br 1 line _ HC.out).mono ?_); rintro e w2 ⟨rfl, hw⟩; subst hw))
        exact ⟨rfl, .inr ⟨HR.out, rfl⟩, rfl⟩
      · have g0 : ((s[0].toNat : Int) != 48) = true := by simp; omega
        have HOK : Hid ((decide ((bs s).head? ≠ some 48) || decide (s.size = 1)) = true) := by
          show _ = _
          rw [HH.out, decide_eq_true (show some s[0] ≠ some 48 from fun h => c0 (HU.out.1 (Option.some.inj h)))]
          rfl
        clear c0 hz
        go_enter Tryz.func130, Tryz.ntmps130
        go_wp2_with (first
          | (go_at_call 48; refine (inRange_any _ _ _ _).mono ?_; rintro e w2 ⟨rfl, hw⟩; subst hw; rw [H18.out])
          | (go_at_call 63; with_reducible (refine (want_ok (some ⟨br, 0, none⟩) 1 _).mono ?_); rintro e w2 ⟨⟨v2, rfl⟩, hw⟩; subst hw)
          | (go_at_call 63; with_reducible (refine (want_noR br 1 line _ HC.out).mono ?_); rintro e w2 ⟨rfl, hw⟩; subst hw))
        go_loop [5, 6, 23] (fun q5 _ q23 => ∃ k : Nat, k ≤ s.size ∧ q23 = .int .i64 k ∧ q5 = .int .i64 (valD ((bs s).take k)) ∧ Hid (((bs s).take k).all isD = true)) (fun _ _ q23 => s.size - (intOf q23).toNat)
        case atStart => exact ⟨0, Nat.zero_le _, rfl, by simp [valD], (by show _ = _; simp)⟩
        case round =>
          obtain ⟨k, hk, rfl, rfl, HA⟩ := hrel
          by_cases hlt : k < s.size
          · have hki : (k : Int) < (s.size : Int) := by omega
            have HS := hide (all_snoc hlt isD)
            have HW := hide (val_snoc hlt)
            have HBD := hide (fun h => num_bad hlt h)
            have hc256 : s[k].toNat < 256 := UInt8.toNat_lt _
            have hvb := valD_bd ((bs s).take k) HA.out
            have hp10 : (10 : Int) ^ ((bs s).take k).length ≤ 10 ^ 7 := by
              have h3 : ((bs s).take k).length ≤ 7 := by rw [List.length_take]; omega
              exact_mod_cast Nat.pow_le_pow_right (by omega) h3
            have h107 : (10 : Int) ^ 7 = 10000000 := by decide
            by_cases cd : 48 ≤ s[k].toNat ∧ s[k].toNat ≤ 57
            · have g1 : decide ((48 : Int) ≤ (s[k].toNat : Int)) = true := decide_eq_true (by omega)
              have g2 : decide ((s[k].toNat : Int) ≤ 57) = true := decide_eq_true (by omega)
              have hu : IntKind.u8.wrap ((s[k].toNat : Int) - 48) = (s[k].toNat : Int) - 48 := by rw [IntKind.wrap_u8]; omega
              have HD := hide (show isD s[k] = true by simp only [isD, Bool.and_eq_true, decide_eq_true_eq]; exact cd)
              have HA2 : Hid (((bs s).take (k + 1)).all isD = true) := by show _ = _; rw [HS.out, HA.out, HD.out]; rfl
              have hv : 0 ≤ valD ((bs s).take k) ∧ valD ((bs s).take k) < 10000000 := by omega
              have hcr : 48 ≤ (s[k].toNat : Int) ∧ (s[k].toNat : Int) ≤ 57 := by omega
              clear cd hvb hp10 h107
              generalize valD ((bs s).take k) = V at *
              go_wp2_with (first
                | (go_at_call 48; refine (inRange_any _ _ _ _).mono ?_; rintro e w2 ⟨rfl, hw⟩; subst hw; rw [H18.out])
                | (go_at_call 63; with_reducible (refine (want_ok (some ⟨br, 0, none⟩) 1 _).mono ?_); rintro e w2 ⟨⟨v2, rfl⟩, hw⟩; subst hw)
                | (go_at_call 63; with_reducible (refine (want_noR br 1 line _ HC.out).mono ?_); rintro e w2 ⟨rfl, hw⟩; subst hw))
              go_roundw
              case rel => exact ⟨k + 1, by omega, by go_num, by rw [HW.out], HA2⟩
              case measure => simp [intOf]; omega
            · have HR := hide (HBD.out (by simp only [isD, Bool.and_eq_false_iff, decide_eq_false_iff_not]; omega))
              clear hvb hp10 h107
              by_cases c1 : 48 ≤ s[k].toNat
              · have g1 : decide ((48 : Int) ≤ (s[k].toNat : Int)) = true := decide_eq_true (by omega)
                have g2 : decide ((s[k].toNat : Int) ≤ 57) = false := decide_eq_false (by omega)
                clear cd c1
                go_wp2_with (first
                | (go_at_call 48; refine (inRange_any _ _ _ _).mono ?_; rintro e w2 ⟨rfl, hw⟩; subst hw; rw [H18.out])
                | (go_at_call 63; with_reducible (refine (want_ok (some ⟨br, 0, none⟩) 1 _).mono ?_); rintro e w2 ⟨⟨v2, rfl⟩, hw⟩; subst hw)
                | (go_at_call 63; with_reducible (refine (want_noR br 1 line _ HC.out).mono ?_); rintro e w2 ⟨rfl, hw⟩; subst hw))
                exact ⟨rfl, .inr ⟨HR.out, rfl⟩, rfl⟩
              · have g1 : decide ((48 : Int) ≤ (s[k].toNat : Int)) = false := decide_eq_false (by omega)
                clear cd c1
                go_wp2_with (first
                | (go_at_call 48; refine (inRange_any _ _ _ _).mono ?_; rintro e w2 ⟨rfl, hw⟩; subst hw; rw [H18.out])
                | (go_at_call 63; with_reducible (refine (want_ok (some ⟨br, 0, none⟩) 1 _).mono ?_); rintro e w2 ⟨⟨v2, rfl⟩, hw⟩; subst hw)
                | (go_at_call 63; with_reducible (refine (want_noR br 1 line _ HC.out).mono ?_); rintro e w2 ⟨rfl, hw⟩; subst hw))
                exact ⟨rfl, .inr ⟨HR.out, rfl⟩, rfl⟩
          · obtain rfl : k = s.size := by omega
            have hA := HA.out
            rw [show (bs s).take s.size = bs s by rw [← bs_len]; simp] at hA
            rw [show (bs s).take s.size = bs s by rw [← bs_len]; simp]
            have HR := hide (show numOk (bs s) = true by rw [num_end hA, HOK.out, decide_eq_true h8.1, decide_eq_true h8.2]; rfl)
            clear hA HA hlt hk
            go_wp2_with fail
            go_ret
            exact ⟨.inl ⟨HR.out, rfl⟩, rfl⟩
end Go.Proofs.YtcodpnkfpmjleaaGreatDoor
