import Derived.Test.YtokhbnlpifmjkaaDoorNm
import Derived.Deep.Light
namespace Go.Proofs.YtokhbnlpifmjkaaDoor
open Go.RowKit
set_option maxHeartbeats 400000

theorem inRange_any (x a b : Int) (w : World) : Calls Tryd.prog 46 #[.int .i64 x, .int .i64 a, .int .i64 b] w fun e w' =>
    e = .returned (.bool (inR x a b)) ∧ w = w' := by
  by_cases h : a ≤ x
  all_goals
    go_enter Tryd.func46, Tryd.ntmps46
    go_wp2
    go_ret
    exact ⟨ret_b (by simp [inR]; try omega), rfl⟩

theorem nameByte_any (c : UInt8) (w : World) : Calls Tryd.prog 62 #[.int .u8 (c.toNat : Int)] w fun e w' =>
    e = .returned (.bool (byteOk c)) ∧ w = w' := by
  unfold byteOk
  generalize (c.toNat : Int) = x
  go_enter Tryd.func62, Tryd.ntmps62
  go_wp2
  all_goals go_ret
  all_goals refine ⟨ret_b ?_, rfl⟩
  all_goals go_light
  all_goals first | rfl | (rw [Bool.eq_iff_iff]; simp; omega)

theorem nameOk_any (s : ByteArray) (w : World) (hs : s.size ≤ 1048576) : Calls Tryd.prog 57 #[.string s] w fun e w' =>
    e = .returned (.bool (nm s)) ∧ w = w' := by
  by_cases hr : inR (s.size : Int) 1 20 = true
  · have h1 : 1 ≤ s.size ∧ s.size ≤ 20 := by simp [inR] at hr; omega
    go_enter Tryd.func57, Tryd.ntmps57
    go_wp2_with fail
    refine (inRange_any _ _ _ _).mono ?_
    rintro e w' ⟨rfl, rfl⟩
    rw [hr]
    go_wp2_with fail
    go_loop [10] (fun i => ∃ k : Nat, k ≤ s.size ∧ i = .int .i64 k ∧ (∀ j (hj : j < s.size), j < k → byteOk s[j] = true)) (fun i => s.size - (intOf i).toNat)
    case atStart => exact ⟨0, Nat.zero_le _, rfl, by omega⟩
    case round =>
      obtain ⟨k, hk, rfl, hall⟩ := hrel
      have HA := hide hall
      clear hall
      by_cases hlt : k < s.size
      · cases hc : byteOk s[k]
        · have HB := hide (nm_bad s k hlt hc)
          have HC := hide hc
          clear hc
          go_wp2_with fail
          refine (nameByte_any s[k] _).mono ?_
          rintro e w1 ⟨rfl, rfl⟩
          rw [HC.out]
          go_wp2_with fail
          go_ret
          exact ⟨ret_b HB.out.symm, rfl⟩
        · have HC := hide hc
          clear hc
          go_wp2_with fail
          refine (nameByte_any s[k] _).mono ?_
          rintro e w1 ⟨rfl, rfl⟩
          rw [HC.out]
          go_wp2_with fail
          refine ⟨⟨k + 1, by omega, by go_num, ?_⟩, by simp [intOf]; omega⟩
          intro j hj hjk
          by_cases e : j = k
          · subst e; exact HC.out
          · exact HA.out j hj (by omega)
      · have HN := hide (nm_all s (fun j hj => HA.out j hj (by omega)))
        go_wp2_with fail
        go_ret
        exact ⟨ret_b (by rw [HN.out]; simp; omega), rfl⟩
  · have hr' : inR (s.size : Int) 1 20 = false := by simpa using hr
    have hf : nm s = false := by simp [inR] at hr'; simp [nm]; omega
    have HF := hide hf
    clear hf hr
    go_enter Tryd.func57, Tryd.ntmps57
    go_wp2_with fail
    refine (inRange_any _ _ _ _).mono ?_
    rintro e w' ⟨rfl, rfl⟩
    rw [hr']
    go_wp2_with fail
    go_ret
    exact ⟨ret_b HF.out.symm, rfl⟩
end Go.Proofs.YtokhbnlpifmjkaaDoor
