import Derived.Test.YtokhbnlpifmjkaaDoorSz
import Derived.Test.YtokhbnlpifmjkaaDoorPl
import Derived.Deep.Light
namespace Go.Proofs.YtokhbnlpifmjkaaDoor
open Go.RowKit
set_option maxHeartbeats 400000

theorem ret_b {a b : Bool} (h : a = b) : Ending.returned (.bool a) = .returned (.bool b) := by rw [h]

theorem l1in_any (x a b : Int) (w : World) : Calls Tryd.prog 42 #[.int .i64 x, .int .i64 a, .int .i64 b] w fun e w' =>
    e = .returned (.bool (inR x a b)) ∧ w = w' := by
  by_cases h : a ≤ x
  all_goals
    go_enter Tryd.func42, Tryd.ntmps42
    go_wp2
    go_ret
    exact ⟨ret_b (by simp [inR]; try omega), rfl⟩

theorem l1name_any (s : ByteArray) (w : World) (hs : s.size ≤ 1048576) : Calls Tryd.prog 41 #[.string s] w fun e w' =>
    e = .returned (.bool (nm s)) ∧ w = w' := by
  go_enter Tryd.func41, Tryd.ntmps41
  go_wp2
  go_loop [3] (fun i => ∃ k : Nat, k ≤ s.size ∧ i = .int .i64 k ∧ (∀ j (hj : j < s.size), j < k → byteOk s[j] = true)) (fun i => s.size - (intOf i).toNat)
  case atStart => exact ⟨0, Nat.zero_le _, rfl, by omega⟩
  case round =>
    obtain ⟨k, hk, rfl, hall⟩ := hrel
    have HA := hide hall
    clear hall
    by_cases hlt : k < s.size
    · go_wp2
      all_goals first
        | (go_ret
           refine ⟨ret_b (nm_bad s k hlt ?_).symm, rfl⟩
           go_light
           refine byteOk_false ?_
           simp at *
           omega)
        | (refine ⟨⟨k + 1, by omega, by go_num, ?_⟩, by simp [intOf]; omega⟩
           intro j hj hjk
           by_cases e : j = k
           · subst e
             go_light
             refine byteOk_true ?_
             simp at *
             omega
           · exact HA.out j hj (by omega))
    · have hn := nm_all s (fun j hj => HA.out j hj (by omega))
      have HN := hide hn
      clear hn
      go_wp2
      all_goals go_ret
      all_goals refine ⟨ret_b ?_, rfl⟩
      all_goals rw [HN.out]
      all_goals go_light
      all_goals (rw [Bool.eq_iff_iff]; simp; omega)
end Go.Proofs.YtokhbnlpifmjkaaDoor
