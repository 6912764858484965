import Derived.Test.YtokhbnlpifmjkaaDoorMkD
namespace Go.Proofs.YtokhbnlpifmjkaaDoor
open Go.RowKit
set_option maxHeartbeats 1000000

def dtext (n : Int) : ByteArray := if n = 0 then ⟨#[48]⟩ else md (n.toNat + 1) n ⟨#[]⟩

theorem md_size (f : Nat) : ∀ (n : Int) (s : ByteArray), (md f n s).size ≤ f + s.size := by
  induction f with
  | zero => intro n s; simp [md]
  | succ f ih =>
    intro n s
    rw [md]
    split
    · omega
    · have := ih (n / 10) (ByteArray.empty.push (UInt8.ofNat (48 + n % 10).toNat) ++ s)
      rw [size_dig] at this
      omega

theorem md_size10 (f : Nat) : ∀ (g : Nat) (n : Int) (s : ByteArray), n < 10 ^ g → (md f n s).size ≤ g + s.size := by
  induction f with
  | zero => intro g n s _; simp [md]
  | succ f ih =>
    intro g n s hg
    rw [md]
    split
    · omega
    · rename_i hn
      match g, hg with
      | 0, hg => simp at hg; omega
      | g + 1, hg =>
        have h2 : n / 10 < 10 ^ g := by
          rw [Int.pow_succ] at hg
          omega
        have := ih g (n / 10) (ByteArray.empty.push (UInt8.ofNat (48 + n % 10).toNat) ++ s) h2
        rw [size_dig] at this
        omega

theorem dtext_size (n : Int) (h : n ≤ 10000000) : (dtext n).size ≤ 8 := by
  unfold dtext
  split
  · decide
  · have := md_size10 (n.toNat + 1) 8 n ⟨#[]⟩ (by omega)
    have e : (ByteArray.mk #[]).size = 0 := rfl
    omega

set_option maxRecDepth 20000 in
theorem l2decimal_any (k : Int) (w : World) (h0 : 0 ≤ k) (h1 : k ≤ 10000000) :
    Calls Tryd.prog 12 #[.int .i64 k] w fun e w' =>
    e = .returned (.string (dtext k)) ∧ Below w.heap.size w w' := by
  by_cases hk : k = 0
  · subst hk
    go_enter Tryd.func12, Tryd.ntmps12
    go_wp2
    go_ret
    exact ⟨rfl, Below.refl _ _⟩
  · have hk' : (k == 0) = false := by rw [beq_eq_false_iff_ne]; exact hk
    have HM := hide (show dtext k = md (k.toNat + 1) k ⟨#[]⟩ by simp [dtext, hk])
    generalize hR : md (k.toNat + 1) k ⟨#[]⟩ = R at HM
    have HR := hide hR
    clear hR hk
    go_enter Tryd.func12, Tryd.ntmps12
    go_wp2
    go_loopw [0, 3] (fun i q wr => ∃ (n : Int) (s : ByteArray), 0 ≤ n ∧ i = .int .i64 n ∧ q = .string s ∧ n + s.size ≤ k ∧ Hid (md (n.toNat + 1) n s = R) ∧ Below w.heap.size w wr) (fun i _ _ => (intOf i).toNat)
    case atStart => exact ⟨k, ⟨#[]⟩, by omega, rfl, rfl, by simp [ByteArray.size], HR, Below.refl _ _⟩
    case round =>
      obtain ⟨n, s, hn, rfl, rfl, hs, hmd, hb⟩ := hrel
      by_cases hpos : 0 < n
      · have hcv := conv1 wr (48 + n % 10)
        go_wp2
        refine ⟨⟨n / 10, _, by omega, rfl, rfl, ?_, ?_, hb.alloc hb.size _⟩, ?_⟩
        · rw [size_dig]; omega
        · have h := hmd.out
          rw [md, if_neg (by omega)] at h
          show md _ _ _ = _
          rw [← h]
          exact md_fuel _ _ _ _ (by omega) (by omega)
        · simp [intOf]; omega
      · have h := hmd.out
        rw [md, if_pos (by omega)] at h
        have HH := hide h
        clear h
        go_wp2
        go_ret
        refine ⟨?_, hb⟩
        rw [HM.out, ← HH.out]
        rfl
end Go.Proofs.YtokhbnlpifmjkaaDoor
