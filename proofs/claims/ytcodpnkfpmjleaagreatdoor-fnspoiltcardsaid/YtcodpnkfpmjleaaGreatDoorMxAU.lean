/- impl: what a reader panics with; want. Own work. -/
import Derived.Test.YtcodpnkfpmjleaaGreatDoorMxAJ
import Derived.Test.YtcodpnkfpmjleaaGreatDoorMxAN
import Derived.WalkSmall
import Derived.Test.YtcodpnkfpmjleaaGreatDoorMxAA
import Derived.Lib.CutLaws
import Derived.Lib.IndexBytes
import Derived.Lib.IndexAny
import Derived.Lib.SlTrimSet
namespace Go.Proofs.YtcodpnkfpmjleaaGreatDoor
open Go.RowKit Go.Sort
set_option maxHeartbeats 4000000
set_option maxRecDepth 100000

/-- What a reader panics with. -/
def leaveV (code line : Int) : Value := .iface 125 (.agg #[.iface 81 (.agg #[.int .i64 code, .int .i64 line])])
def leaveC (code line : Int) : List PanicEntry := [{ v := leaveV code line, recovered := false }]
theorem want_ok (br : Option Addr) (code : Int) (w : World) :
    Calls Tryz.prog 63 #[.pointer br, .bool true, .int .i64 code] w fun e w' => (∃ v, e = .returned v) ∧ w = w' := by
  go_enter Tryz.func63, Tryz.ntmps63
  go_wp2_with fail
  go_end0
  exact ⟨⟨_, rfl⟩, rfl⟩
theorem want_noR (br : Nat) (code line : Int) (w : World) (hc : w.cell? ⟨br, 0, none⟩ = some (.int .i64 line)) :
    Calls Tryz.prog 63 #[.pointer (some ⟨br, 0, none⟩), .bool false, .int .i64 code] w fun e w' => e = .panicked (leaveC code line) ∧ w = w' := by
  have hl := cell_lt hc
  go_enter Tryz.func63, Tryz.ntmps63
  go_wp2_with fail
  exact ⟨rfl, rfl, rfl⟩
theorem number_any (br : Nat) (s : ByteArray) (line : Int) (w : World) (hs : s.size ≤ 1048576) (hc : w.cell? ⟨br, 0, none⟩ = some (.int .i64 line)) :
    Calls Tryz.prog 130 #[.pointer (some ⟨br, 0, none⟩), .string s] w fun e w' => ((numOk (bs s) = true ∧ e = .returned (.int .i64 (valD (bs s)))) ∨ (numOk (bs s) = false ∧ e = .panicked (leaveC 1 line))) ∧ w = w' := by
  have HC := hide hc
  have hl := cell_lt hc
  clear hc
  cases h18 : inR (s.size : Int) 1 8 with
  | false =>
    have HR := hide (show numOk (bs s) = false by
      simp only [inR, Bool.and_eq_false_iff, decide_eq_false_iff_not] at h18
      simp only [numOk, bs_len, Bool.and_eq_false_iff, decide_eq_false_iff_not]
      rcases h18 with h | h
      · exact .inl (.inl (.inr (by omega)))
      · exact .inl (.inr (by omega)))
    have H18 := hide h18
    clear h18
    go_enter Tryz.func130, Tryz.ntmps130
    go_wp2_with (first
      | (go_at_call 48; refine (inRange_any _ _ _ _).mono ?_; rintro e w2 ⟨rfl, hw⟩; subst hw; rw [H18.out])
      | (go_at_call 63; refine (want_noR br 1 line _ HC.out).mono ?_; rintro e w2 ⟨rfl, hw⟩; subst hw))
    exact ⟨rfl, .inr ⟨HR.out, rfl⟩, rfl⟩
  | true =>
    have h8 : 1 ≤ s.size ∧ s.size ≤ 8 := by simp [inR] at h18; omega
    have h0 : 0 < s.size := by omega
    have h0i : (0 : Int) < (s.size : Int) := by omega
    have H18 := hide h18
    have HH := hide (num_at h0)
    have HU := hide (show s[0] = 48 ↔ s[0].toNat = 48 from u8_eq)
    have HSL := hide (show s.toList = bs s from by rw [Lib.toList_data]; rfl)
    clear h18
    by_cases hz : s.toList = [48]
    · have gz : (s.toList == [48]) = true := by rw [beq_iff_eq]; exact hz
      have HOK : Hid ((decide ((bs s).head? ≠ some 48) || decide (s.size = 1)) = true) := by
        show _ = _
        have : s.size = 1 := by rw [← bs_len, ← HSL.out, hz]; rfl
        simp [this]
      clear hz
      go_enter Tryz.func130, Tryz.ntmps130
      go_wp2_with (first
        | (go_at_call 48; refine (inRange_any _ _ _ _).mono ?_; rintro e w2 ⟨rfl, hw⟩; subst hw; rw [H18.out])
        | (go_at_call 63; with_reducible (refine (want_ok (some ⟨br, 0, none⟩) 1 _).mono ?_); rintro e w2 ⟨⟨v2, rfl⟩, hw⟩; subst hw)
        | (go_at_call 63; with_reducible (refine (want_noR br 1 line _ HC.out).mono ?_); rintro e w2 ⟨rfl, hw⟩; subst hw))
      go_loop [5, 6, 23] (fun q5 _ q23 => ∃ k : Nat, k ≤ s.size ∧ q23 = .int .i64 k ∧ q5 = .int .i64 (valD ((bs s).take k)) ∧ Hid (((bs s).take k).all isD = true)) (fun _ _ q23 => s.size - (intOf q23).toNat)
      case atStart => exact ⟨0, Nat.zero_le _, rfl, by simp [valD], (by show _ = _; simp)⟩
      case round =>
        obtain ⟨k, hk, rfl, rfl, HA⟩ := hrel
        by_cases hlt : k < s.size
        · have hki : (k : Int) < (s.size : Int) := by omega
          have HS := hide (all_snoc hlt isD)
          have HW := hide (val_snoc hlt)
          have HBD := hide (fun h => num_bad hlt h)
          have hc256 : s[k].toNat < 256 := UInt8.toNat_lt _
          have hvb := valD_bd ((bs s).take k) HA.out
          have hp10 : (10 : Int) ^ ((bs s).take k).length ≤ 10 ^ 7 := by
            have h3 : ((bs s).take k).length ≤ 7 := by rw [List.length_take]; omega
            exact_mod_cast Nat.pow_le_pow_right (by omega) h3
          have h107 : (10 : Int) ^ 7 = 10000000 := by decide
          by_cases cd : 48 ≤ s[k].toNat ∧ s[k].toNat ≤ 57
          · have g1 : decide ((48 : Int) ≤ (s[k].toNat : Int)) = true := decide_eq_true (by omega)
            have g2 : decide ((s[k].toNat : Int) ≤ 57) = true := decide_eq_true (by omega)
            have hu : IntKind.u8.wrap ((s[k].toNat : Int) - 48) = (s[k].toNat : Int) - 48 := by rw [IntKind.wrap_u8]; omega
            have HD := hide (show isD s[k] = true by simp only [isD, Bool.and_eq_true, decide_eq_true_eq]; exact cd)
            have HA2 : Hid (((bs s).take (k + 1)).all isD = true) := by show _ = _; rw [HS.out, HA.out, HD.out]; rfl
            have hv : 0 ≤ valD ((bs s).take k) ∧ valD ((bs s).take k) < 10000000 := by omega
            have hcr : 48 ≤ (s[k].toNat : Int) ∧ (s[k].toNat : Int) ≤ 57 := by omega
            clear cd hvb hp10 h107
            generalize valD ((bs s).take k) = V at *
            go_wp2_with (first
              | (go_at_call 48; refine (inRange_any _ _ _ _).mono ?_; rintro e w2 ⟨rfl, hw⟩; subst hw; rw [H18.out])
              | (go_at_call 63; with_reducible (refine (want_ok (some ⟨br, 0, none⟩) 1 _).mono ?_); rintro e w2 ⟨⟨v2, rfl⟩, hw⟩; subst hw)
              | (go_at_call 63; with_reducible (refine (want_noR br 1 line _ HC.out).mono ?_); rintro e w2 ⟨rfl, hw⟩; subst hw))
            go_roundw
            case rel => exact ⟨k + 1, by omega, by go_num, by rw [HW.out], HA2⟩
            case measure => simp [intOf]; omega
          · have HR := hide (HBD.out (by simp only [isD, Bool.and_eq_false_iff, decide_eq_false_iff_not]; omega))
            clear hvb hp10 h107
            by_cases c1 : 48 ≤ s[k].toNat
            · have g1 : decide ((48 : Int) ≤ (s[k].toNat : Int)) = true := decide_eq_true (by omega)
              have g2 : decide ((s[k].toNat : Int) ≤ 57) = false := decide_eq_false (by omega)
              clear cd c1
              go_wp2_with (first
              | (go_at_call 48; refine (inRange_any _ _ _ _).mono ?_; rintro e w2 ⟨rfl, hw⟩; subst hw; rw [H18.out])
              | (go_at_call 63; with_reducible (refine (want_ok (some ⟨br, 0, none⟩) 1 _).mono ?_); rintro e w2 ⟨⟨v2, rfl⟩, hw⟩; subst hw)
              | (go_at_call 63; with_reducible (refine (want_noR br 1 line _ HC.out).mono ?_); rintro e w2 ⟨rfl, hw⟩; subst hw))
              exact ⟨rfl, .inr ⟨HR.out, rfl⟩, rfl⟩
            · have g1 : decide ((48 : Int) ≤ (s[k].toNat : Int)) = false := decide_eq_false (by omega)
              clear cd c1
              go_wp2_with (first
              | (go_at_call 48; refine (inRange_any _ _ _ _).mono ?_; rintro e w2 ⟨rfl, hw⟩; subst hw; rw [H18.out])
              | (go_at_call 63; with_reducible (refine (want_ok (some ⟨br, 0, none⟩) 1 _).mono ?_); rintro e w2 ⟨⟨v2, rfl⟩, hw⟩; subst hw)
              | (go_at_call 63; with_reducible (refine (want_noR br 1 line _ HC.out).mono ?_); rintro e w2 ⟨rfl, hw⟩; subst hw))
              exact ⟨rfl, .inr ⟨HR.out, rfl⟩, rfl⟩
        · obtain rfl : k = s.size := by omega
          have hA := HA.out
          rw [show (bs s).take s.size = bs s by rw [← bs_len]; simp] at hA
          rw [show (bs s).take s.size = bs s by rw [← bs_len]; simp]
          have HR := hide (show numOk (bs s) = true by rw [num_end hA, HOK.out, decide_eq_true h8.1, decide_eq_true h8.2]; rfl)
          clear hA HA hlt hk
          go_wp2_with fail
          go_ret
          exact ⟨.inl ⟨HR.out, rfl⟩, rfl⟩
    · have gz : (s.toList == [48]) = false := by rw [beq_eq_false_iff_ne]; exact hz
      by_cases c0 : s[0].toNat = 48
      · have g0 : ((s[0].toNat : Int) != 48) = false := by simp; omega
        have HR := hide (show numOk (bs s) = false by
          have hl1 : ¬ (bs s).length = 1 := fun h1 => hz (by
            rw [HSL.out]
            obtain ⟨x, hx⟩ := List.length_eq_one_iff.1 h1
            have h2 := HH.out
            rw [hx] at h2 ⊢
            simp at h2
            rw [h2, HU.out.2 c0])
          simp only [numOk, Bool.and_eq_false_iff]
          right
          rw [HH.out, HU.out.2 c0]
          simp [hl1])
        clear c0 hz
        go_enter Tryz.func130, Tryz.ntmps130
        go_wp2_with (first
          | (go_at_call 48; refine (inRange_any _ _ _ _).mono ?_; rintro e w2 ⟨rfl, hw⟩; subst hw; rw [H18.out])
          | (go_at_call 63; with_reducible (refine (want_ok (some ⟨br, 0, none⟩) 1 _).mono ?_); rintro e w2 ⟨⟨v2, rfl⟩, hw⟩; subst hw)
          | (go_at_call 63; with_reducible (refine (want_noR br 1 line _ HC.out).mono ?_); rintro e w2 ⟨rfl, hw⟩; subst hw))
        exact ⟨rfl, .inr ⟨HR.out, rfl⟩, rfl⟩
      · have g0 : ((s[0].toNat : Int) != 48) = true := by simp; omega
        have HOK : Hid ((decide ((bs s).head? ≠ some 48) || decide (s.size = 1)) = true) := by
          show _ = _
          rw [HH.out, decide_eq_true (show some s[0] ≠ some 48 from fun h => c0 (HU.out.1 (Option.some.inj h)))]
          rfl
        clear c0 hz
        go_enter Tryz.func130, Tryz.ntmps130
        go_wp2_with (first
          | (go_at_call 48; refine (inRange_any _ _ _ _).mono ?_; rintro e w2 ⟨rfl, hw⟩; subst hw; rw [H18.out])
          | (go_at_call 63; with_reducible (refine (want_ok (some ⟨br, 0, none⟩) 1 _).mono ?_); rintro e w2 ⟨⟨v2, rfl⟩, hw⟩; subst hw)
          | (go_at_call 63; with_reducible (refine (want_noR br 1 line _ HC.out).mono ?_); rintro e w2 ⟨rfl, hw⟩; subst hw))
        go_loop [5, 6, 23] (fun q5 _ q23 => ∃ k : Nat, k ≤ s.size ∧ q23 = .int .i64 k ∧ q5 = .int .i64 (valD ((bs s).take k)) ∧ Hid (((bs s).take k).all isD = true)) (fun _ _ q23 => s.size - (intOf q23).toNat)
        case atStart => exact ⟨0, Nat.zero_le _, rfl, by simp [valD], (by show _ = _; simp)⟩
        case round =>
          obtain ⟨k, hk, rfl, rfl, HA⟩ := hrel
          by_cases hlt : k < s.size
          · have hki : (k : Int) < (s.size : Int) := by omega
            have HS := hide (all_snoc hlt isD)
            have HW := hide (val_snoc hlt)
            have HBD := hide (fun h => num_bad hlt h)
            have hc256 : s[k].toNat < 256 := UInt8.toNat_lt _
            have hvb := valD_bd ((bs s).take k) HA.out
            have hp10 : (10 : Int) ^ ((bs s).take k).length ≤ 10 ^ 7 := by
              have h3 : ((bs s).take k).length ≤ 7 := by rw [List.length_take]; omega
              exact_mod_cast Nat.pow_le_pow_right (by omega) h3
            have h107 : (10 : Int) ^ 7 = 10000000 := by decide
            by_cases cd : 48 ≤ s[k].toNat ∧ s[k].toNat ≤ 57
            · have g1 : decide ((48 : Int) ≤ (s[k].toNat : Int)) = true := decide_eq_true (by omega)
              have g2 : decide ((s[k].toNat : Int) ≤ 57) = true := decide_eq_true (by omega)
              have hu : IntKind.u8.wrap ((s[k].toNat : Int) - 48) = (s[k].toNat : Int) - 48 := by rw [IntKind.wrap_u8]; omega
              have HD := hide (show isD s[k] = true by simp only [isD, Bool.and_eq_true, decide_eq_true_eq]; exact cd)
              have HA2 : Hid (((bs s).take (k + 1)).all isD = true) := by show _ = _; rw [HS.out, HA.out, HD.out]; rfl
              have hv : 0 ≤ valD ((bs s).take k) ∧ valD ((bs s).take k) < 10000000 := by omega
              have hcr : 48 ≤ (s[k].toNat : Int) ∧ (s[k].toNat : Int) ≤ 57 := by omega
              clear cd hvb hp10 h107
              generalize valD ((bs s).take k) = V at *
              go_wp2_with (first
                | (go_at_call 48; refine (inRange_any _ _ _ _).mono ?_; rintro e w2 ⟨rfl, hw⟩; subst hw; rw [H18.out])
                | (go_at_call 63; with_reducible (refine (want_ok (some ⟨br, 0, none⟩) 1 _).mono ?_); rintro e w2 ⟨⟨v2, rfl⟩, hw⟩; subst hw)
                | (go_at_call 63; with_reducible (refine (want_noR br 1 line _ HC.out).mono ?_); rintro e w2 ⟨rfl, hw⟩; subst hw))
              go_roundw
              case rel => exact ⟨k + 1, by omega, by go_num, by rw [HW.out], HA2⟩
              case measure => simp [intOf]; omega
            · have HR := hide (HBD.out (by simp only [isD, Bool.and_eq_false_iff, decide_eq_false_iff_not]; omega))
              clear hvb hp10 h107
              by_cases c1 : 48 ≤ s[k].toNat
              · have g1 : decide ((48 : Int) ≤ (s[k].toNat : Int)) = true := decide_eq_true (by omega)
                have g2 : decide ((s[k].toNat : Int) ≤ 57) = false := decide_eq_false (by omega)
                clear cd c1
                go_wp2_with (first
                | (go_at_call 48; refine (inRange_any _ _ _ _).mono ?_; rintro e w2 ⟨rfl, hw⟩; subst hw; rw [H18.out])
                | (go_at_call 63; with_reducible (refine (want_ok (some ⟨br, 0, none⟩) 1 _).mono ?_); rintro e w2 ⟨⟨v2, rfl⟩, hw⟩; subst hw)
                | (go_at_call 63; with_reducible (refine (want_noR br 1 line _ HC.out).mono ?_); rintro e w2 ⟨rfl, hw⟩; subst hw))
                exact ⟨rfl, .inr ⟨HR.out, rfl⟩, rfl⟩
              · have g1 : decide ((48 : Int) ≤ (s[k].toNat : Int)) = false := decide_eq_false (by omega)
                clear cd c1
                go_wp2_with (first
                | (go_at_call 48; refine (inRange_any _ _ _ _).mono ?_; rintro e w2 ⟨rfl, hw⟩; subst hw; rw [H18.out])
                | (go_at_call 63; with_reducible (refine (want_ok (some ⟨br, 0, none⟩) 1 _).mono ?_); rintro e w2 ⟨⟨v2, rfl⟩, hw⟩; subst hw)
                | (go_at_call 63; with_reducible (refine (want_noR br 1 line _ HC.out).mono ?_); rintro e w2 ⟨rfl, hw⟩; subst hw))
                exact ⟨rfl, .inr ⟨HR.out, rfl⟩, rfl⟩
          · obtain rfl : k = s.size := by omega
            have hA := HA.out
            rw [show (bs s).take s.size = bs s by rw [← bs_len]; simp] at hA
            rw [show (bs s).take s.size = bs s by rw [← bs_len]; simp]
            have HR := hide (show numOk (bs s) = true by rw [num_end hA, HOK.out, decide_eq_true h8.1, decide_eq_true h8.2]; rfl)
            clear hA HA hlt hk
            go_wp2_with fail
            go_ret
            exact ⟨.inl ⟨HR.out, rfl⟩, rfl⟩
end Go.Proofs.YtcodpnkfpmjleaaGreatDoor

/- impl's way with lines, words and ends, plain. Own work. -/
namespace Go.Proofs.YtcodpnkfpmjleaaGreatDoor
set_option maxHeartbeats 1000000

/-! ### One byte that is looked for -/
theorem idx1 : ∀ (l : Bl) (c : UInt8), (Lib.index l [c] = -1 ∧ c ∉ l) ∨ ∃ a b, l = a ++ c :: b ∧ c ∉ a ∧ Lib.index l [c] = (a.length : Int)
  | [], c => .inl ⟨rfl, by simp⟩
  | x :: l, c => by
    rw [Lib.index_one]
    unfold Lib.indexByte
    by_cases h : x = c
    · subst h
      exact .inr ⟨[], l, rfl, by simp, by simp⟩
    · have hb : (x == c) = false := by simpa using h
      rcases idx1 l c with ⟨h1, h2⟩ | ⟨a, b, h1, h2, h3⟩
      · rw [Lib.index_one] at h1
        refine .inl ⟨by simp [hb, h1], fun hm => ?_⟩
        rcases List.mem_cons.1 hm with e | e
        · exact h e.symm
        · exact h2 e
      · rw [Lib.index_one] at h3
        refine .inr ⟨x :: a, b, by rw [h1]; rfl, fun hm => ?_, ?_⟩
        · rcases List.mem_cons.1 hm with e | e
          · exact h e.symm
          · exact h2 e
        · have h5 : ((a.length : Int) == -1) = false := by rw [beq_eq_false_iff_ne]; omega
          simp [hb, h3, h5]
/-! ### Lines -/
theorem lines_last : ∀ (a cur : Bl), (10 : UInt8) ∉ a → linesG cur a = [cur ++ a]
  | [], cur, _ => by simp [linesG]
  | x :: a, cur, h => by
    have hx : ¬ x = 10 := fun e => h (by rw [e]; exact List.mem_cons_self)
    rw [linesG, if_neg hx, lines_last a (cur ++ [x]) (fun hm => h (List.mem_cons_of_mem _ hm))]
    simp
theorem lines_more : ∀ (a b cur : Bl), (10 : UInt8) ∉ a → linesG cur (a ++ 10 :: b) = (cur ++ a) :: linesG [] b
  | [], b, cur, _ => by simp [linesG]
  | x :: a, b, cur, h => by
    have hx : ¬ x = 10 := fun e => h (by rw [e]; exact List.mem_cons_self)
    rw [List.cons_append, linesG, if_neg hx, lines_more a b (cur ++ [x]) (fun hm => h (List.mem_cons_of_mem _ hm))]
    simp
/-- What the iterator over lines finds. -/
theorem lines_idx (l : Bl) : (Lib.index l [10] = -1 ∧ linesL l = [l]) ∨ ∃ a b, l = a ++ 10 :: b ∧ Lib.index l [10] = (a.length : Int) ∧ linesL l = a :: linesL b := by
  rcases idx1 l 10 with ⟨h1, h2⟩ | ⟨a, b, h1, h2, h3⟩
  · exact .inl ⟨h1, by have := lines_last l [] h2; simpa [linesL] using this⟩
  · exact .inr ⟨a, b, h1, h3, by have := lines_more a b [] h2; rw [h1]; simpa [linesL] using this⟩
/-! ### Words -/
theorem words_rem : ∀ (a b w : Bl), (35 : UInt8) ∉ a → wordsG w (a ++ 35 :: b) = wordsG w a
  | [], b, w, _ => by simp [wordsG]
  | x :: a, b, w, h => by
    have hx : ¬ x = 35 := fun e => h (by rw [e]; exact List.mem_cons_self)
    have hm : (35 : UInt8) ∉ a := fun hm => h (List.mem_cons_of_mem _ hm)
    rw [List.cons_append, wordsG, wordsG, if_neg hx, if_neg hx, words_rem a b [] hm, words_rem a b (w ++ [x]) hm]
/-- A line up to its remark. -/
def bare (l : Bl) : Bl := (Lib.cut l [35]).1
theorem bare_no (l : Bl) : (35 : UInt8) ∉ bare l := by
  unfold bare Lib.cut
  rcases idx1 l 35 with ⟨h1, h2⟩ | ⟨a, b, h1, h2, h3⟩
  · rw [h1]; exact h2
  · rw [h3, if_pos (by omega), h1]
    simpa using h2
theorem bare_words (l : Bl) : wordsL l = wordsL (bare l) := by
  unfold bare Lib.cut
  rcases idx1 l 35 with ⟨h1, h2⟩ | ⟨a, b, h1, h2, h3⟩
  · rw [h1]; rfl
  · rw [h3, if_pos (by omega), h1]
    simp [wordsL, words_rem a b [] h2]
theorem bare_len (l : Bl) : (bare l).length ≤ l.length := by
  unfold bare Lib.cut
  split <;> simp [List.length_take] <;> omega
theorem blank_iff (x : UInt8) : ([32, 9] : Bl).contains x = true ↔ (x = 32 ∨ x = 9) := by simp
theorem words_trim : ∀ (l : Bl), wordsL l = wordsL (Lib.trimLeftS l [32, 9])
  | [] => rfl
  | x :: l => by
    unfold Lib.trimLeftS
    by_cases h : ([32, 9] : Bl).contains x = true
    · have h' := (blank_iff x).1 h
      have h35 : ¬ x = 35 := by rcases h' with rfl | rfl <;> decide
      rw [List.dropWhile_cons_of_pos h]
      have := words_trim l
      unfold Lib.trimLeftS at this
      rw [← this]
      show wordsG [] (x :: l) = _
      rw [wordsG, if_neg h35, if_pos h']
      simp [putW, wordsL]
    · rw [List.dropWhile_cons_of_neg h]
theorem trim_no {l : Bl} (h : (35 : UInt8) ∉ l) : (35 : UInt8) ∉ Lib.trimLeftS l [32, 9] := fun hm => h ((List.dropWhile_sublist _).subset hm)
theorem trim_len (l : Bl) : (Lib.trimLeftS l [32, 9]).length ≤ l.length := (List.dropWhile_sublist _).length_le
theorem words_run : ∀ (a r w : Bl), (∀ x ∈ a, ([32, 9] : Bl).contains x = false) → (35 : UInt8) ∉ a → wordsG w (a ++ r) = wordsG (w ++ a) r
  | [], r, w, _, _ => by simp
  | x :: a, r, w, h, h35 => by
    have hx : ¬ x = 35 := fun e => h35 (by rw [e]; exact List.mem_cons_self)
    have hb : ¬ (x = 32 ∨ x = 9) := fun e => by have := h x List.mem_cons_self; rw [(blank_iff x).2 e] at this; cases this
    rw [List.cons_append, wordsG, if_neg hx, if_neg hb, words_run a r (w ++ [x]) (fun y hy => h y (List.mem_cons_of_mem _ hy)) (fun hm => h35 (List.mem_cons_of_mem _ hm))]
    simp
theorem any_split : ∀ (l : Bl), (Lib.indexAny l [32, 9] = -1 ∧ ∀ x ∈ l, ([32, 9] : Bl).contains x = false) ∨ ∃ a x b, l = a ++ x :: b ∧ (∀ y ∈ a, ([32, 9] : Bl).contains y = false) ∧ ([32, 9] : Bl).contains x = true ∧ Lib.indexAny l [32, 9] = (a.length : Int)
  | [] => .inl ⟨rfl, by simp⟩
  | y :: l => by
    unfold Lib.indexAny
    cases h : ([32, 9] : Bl).contains y with
    | true => exact .inr ⟨[], y, l, rfl, by simp, h, by simp⟩
    | false =>
      rcases any_split l with ⟨h1, h2⟩ | ⟨a, x, b, h1, h2, h3, h4⟩
      · refine .inl ⟨by simp [h1], fun z hz => ?_⟩
        rcases List.mem_cons.1 hz with e | e
        · rw [e]; exact h
        · exact h2 z e
      · refine .inr ⟨y :: a, x, b, by rw [h1]; rfl, fun z hz => ?_, h3, ?_⟩
        · rcases List.mem_cons.1 hz with e | e
          · rw [e]; exact h
          · exact h2 z e
        · have h5 : ((a.length : Int) == -1) = false := by rw [beq_eq_false_iff_ne]; omega
          simp [h4, h5]
/-- Where the first word of a trimmed line ends. -/
def wordTo (l : Bl) : Nat := if Lib.indexAny l [32, 9] < 0 then l.length else (Lib.indexAny l [32, 9]).toNat
theorem wordTo_le (l : Bl) : wordTo l ≤ l.length := by
  unfold wordTo
  rcases any_split l with ⟨h1, h2⟩ | ⟨a, x, b, h1, h2, h3, h4⟩
  · rw [h1]; simp
  · rw [h4, if_neg (by omega), h1]; simp
theorem words_next {l : Bl} (h35 : (35 : UInt8) ∉ l) (hl : Lib.trimLeftS l [32, 9] = l) (hne : l ≠ []) : wordsL l = l.take (wordTo l) :: wordsL (l.drop (wordTo l)) ∧ 0 < wordTo l := by
  have hhead : ∀ x r, l = x :: r → ([32, 9] : Bl).contains x = false := fun x r e => by
    subst e
    unfold Lib.trimLeftS at hl
    cases hx : ([32, 9] : Bl).contains x with
    | false => rfl
    | true =>
      rw [List.dropWhile_cons_of_pos hx] at hl
      have := (List.dropWhile_sublist (l := r) (([32, 9] : Bl).contains ·)).length_le
      rw [hl] at this
      simp at this
      omega
  unfold wordTo
  rcases any_split l with ⟨h1, h2⟩ | ⟨a, x, b, h1, h2, h3, h4⟩
  · rw [h1, if_pos (by omega)]
    have := words_run l [] [] h2 h35
    simp only [List.append_nil, List.nil_append] at this
    refine ⟨?_, List.length_pos_iff.2 hne⟩
    show wordsG [] l = _
    rw [this]
    simp [wordsG, putW, hne, wordsL]
  · have ha : a ≠ [] := fun e => by
      subst e
      have := hhead x b h1
      rw [h3] at this
      cases this
    have hx : x = 32 ∨ x = 9 := (blank_iff x).1 h3
    have hx35 : ¬ x = 35 := by rcases hx with rfl | rfl <;> decide
    have ha35 : (35 : UInt8) ∉ a := fun hm => h35 (by rw [h1]; exact List.mem_append_left _ hm)
    rw [h4, if_neg (by omega), h1]
    refine ⟨?_, by simpa using List.length_pos_iff.2 ha⟩
    show wordsG [] (a ++ x :: b) = _
    rw [words_run a (x :: b) [] h2 ha35]
    simp only [List.nil_append, Int.toNat_natCast, List.take_left', List.drop_left', wordsL]
    rw [wordsG, if_neg hx35, if_pos hx, wordsG, if_neg hx35, if_pos hx]
    simp [putW, ha]
/-! ### Ends -/
def nameE (l : Bl) : Bl := (Lib.cut l [46]).1
def sideE (l : Bl) : Bl := (Lib.cut l [46]).2.1
theorem nm_dot {s : Bl} (h : nm (sb s) = true) : (46 : UInt8) ∉ s ∧ 1 ≤ s.length := by
  simp only [nm, Bool.and_eq_true, decide_eq_true_eq, sb_size] at h
  refine ⟨fun hm => ?_, h.1.2⟩
  have := List.all_eq_true.1 h.1.1 46 (by show (46 : UInt8) ∈ bs (sb s); rw [bs_sb]; exact hm)
  revert this
  decide
theorem cut_dot (l : Bl) : (sideE l = [] ∧ nameE l = l ∧ (46 : UInt8) ∉ l) ∨ (l = nameE l ++ 46 :: sideE l ∧ (46 : UInt8) ∉ nameE l) := by
  unfold sideE nameE Lib.cut
  rcases idx1 l 46 with ⟨h1, h2⟩ | ⟨a, b, h1, h2, h3⟩
  · rw [h1]; exact .inl ⟨rfl, rfl, h2⟩
  · right
    rw [h3, if_pos (by omega)]
    subst h1
    simpa using h2
theorem sideE_len (l : Bl) : (sideE l).length ≤ l.length := by
  rcases cut_dot l with ⟨h, _, _⟩ | ⟨h, _⟩
  · rw [h]; simp
  · have := congrArg List.length h
    simp at this
    omega
theorem nameE_len (l : Bl) : (nameE l).length ≤ l.length := by
  rcases cut_dot l with ⟨_, h, _⟩ | ⟨h, _⟩
  · rw [h]; exact Nat.le_refl _
  · have := congrArg List.length h
    simp at this
    omega
/-- Is the word an end in form? -/
def okE (l : Bl) : Bool := (decide (sideE l = [48]) || decide (sideE l = [49])) && nm (sb (nameE l))
def sideV (l : Bl) : Int := if sideE l = [49] then 1 else 0
theorem dot_first : ∀ {a b c d : Bl}, a ++ (46 : UInt8) :: b = c ++ 46 :: d → (46 : UInt8) ∉ a → (46 : UInt8) ∉ c → a = c ∧ b = d
  | [], b, [], d, h, _, _ => ⟨rfl, by simpa using h⟩
  | [], b, x :: c, d, h, _, hc => by
    simp at h
    exact absurd (show (46 : UInt8) ∈ x :: c by rw [← h.1]; exact List.mem_cons_self) hc
  | x :: a, b, [], d, h, ha, _ => by
    simp at h
    exact absurd (show (46 : UInt8) ∈ x :: a by rw [h.1]; exact List.mem_cons_self) ha
  | x :: a, b, y :: c, d, h, ha, hc => by
    simp at h
    obtain ⟨h1, h2⟩ := h
    obtain ⟨h3, h4⟩ := dot_first h2 (fun hm => ha (List.mem_cons_of_mem _ hm)) (fun hm => hc (List.mem_cons_of_mem _ hm))
    exact ⟨by rw [h1, h3], h4⟩
def endC (N : Nt) (l : Bl) : Int × (Int × Int) := if okE l = true then (match pieceIx N (sb (nameE l)) with | none => (3, (0, 0)) | some p => (0, ((p : Int), sideV l))) else (1, (0, 0))
theorem endW_cut (N : Nt) (l : Bl) : endW N l = endC N l := by
  unfold endW endC
  by_cases h : 3 ≤ l.length ∧ l[l.length - 2]? = some 46 ∧ (l[l.length - 1]? = some 48 ∨ l[l.length - 1]? = some 49) ∧ nm (sb (l.take (l.length - 2))) = true
  · obtain ⟨h1, h2, h3, h4⟩ := h
    obtain ⟨c, hc, hcv⟩ : ∃ c, l[l.length - 1]? = some c ∧ (c = 48 ∨ c = 49) := by
      rcases h3 with h | h
      · exact ⟨48, h, .inl rfl⟩
      · exact ⟨49, h, .inr rfl⟩
    have hl : l = l.take (l.length - 2) ++ 46 :: [c] := by
      apply List.ext_getElem?
      intro i
      by_cases hi : i < l.length - 2
      · rw [List.getElem?_append_left (by simp; omega), List.getElem?_take, if_pos hi]
      · rw [List.getElem?_append_right (by simp; omega)]
        simp only [List.length_take]
        rw [show min (l.length - 2) l.length = l.length - 2 by omega]
        by_cases e2 : i = l.length - 2
        · subst e2; rw [h2]; simp
        · by_cases e1 : i = l.length - 1
          · subst e1; rw [hc, show l.length - 1 - (l.length - 2) = 1 by omega]; rfl
          · rw [List.getElem?_eq_none (by omega), List.getElem?_eq_none (by simp; omega)]
    have hd := (nm_dot h4).1
    rcases cut_dot l with ⟨_, _, hno⟩ | ⟨he, hno⟩
    · exact absurd (by rw [hl]; simp) hno
    · obtain ⟨e1, e2⟩ := dot_first (hl.symm.trans he) hd hno
      have hok : okE l = true := by
        unfold okE
        rw [← e1, h4, ← e2]
        rcases hcv with rfl | rfl <;> simp
      rw [if_pos ⟨h1, h2, h3, h4⟩, if_pos hok, ← e1]
      have hs : (if l[l.length - 1]? = some 49 then (1 : Int) else 0) = sideV l := by
        unfold sideV
        rw [← e2, hc]
        rcases hcv with rfl | rfl <;> simp
      rw [hs]
      rfl
  · rw [if_neg h, if_neg]
    intro hok
    apply h
    unfold okE at hok
    rw [Bool.and_eq_true, Bool.or_eq_true, decide_eq_true_eq, decide_eq_true_eq] at hok
    obtain ⟨hs, hn⟩ := hok
    rcases cut_dot l with ⟨h0, _, _⟩ | ⟨he, hno⟩
    · rw [h0] at hs; rcases hs with hs | hs <;> cases hs
    · obtain ⟨c, hsc, hcv⟩ : ∃ c, sideE l = [c] ∧ (c = 48 ∨ c = 49) := by
        rcases hs with h | h
        · exact ⟨48, h, .inl rfl⟩
        · exact ⟨49, h, .inr rfl⟩
      rw [hsc] at he
      have hlen : l.length = (nameE l).length + 2 := by have := congrArg List.length he; simpa using this
      have hn1 := (nm_dot hn).2
      have ha : l[l.length - 2]? = some 46 := by
        rw [show l.length - 2 = (nameE l).length by omega]
        exact (congrArg (fun x : Bl => x[(nameE l).length]?) he).trans (by simp)
      have hb : l[l.length - 1]? = some c := by
        rw [show l.length - 1 = (nameE l).length + 1 by omega]
        exact (congrArg (fun x : Bl => x[(nameE l).length + 1]?) he).trans (by simp)
      have ht : l.take (l.length - 2) = nameE l := by
        rw [show l.length - 2 = (nameE l).length by omega]
        exact (congrArg (List.take (nameE l).length) he).trans (by simp)
      refine ⟨by omega, ha, ?_, by rw [ht]; exact hn⟩
      rw [hb]
      rcases hcv with rfl | rfl <;> simp
end Go.Proofs.YtcodpnkfpmjleaaGreatDoor
