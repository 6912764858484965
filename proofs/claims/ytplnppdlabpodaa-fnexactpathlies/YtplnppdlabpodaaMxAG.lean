/- impl.over, at every right joint. Own work. -/
import Derived.Test.YtplnppdlabpodaaAcS
import Derived.Test.YtplnppdlabpodaaAcB
import Derived.Test.YtplnppdlabpodaaDrS
namespace Go.Proofs.Ytplnppdlabpodaa
open Go.RowKit
set_option maxHeartbeats 1000000

theorem over_any (n : Nat) (j : Jt) (a : Option Addr) (cap i : Nat) (w : World) (h3 : jb3 n j = false) (hi : i < j.ends.length) (h : EndsAt w a j.ends) :
    Calls Try.prog 83 #[.agg #[.int .i64 j.kind, .string j.name, .slice a j.ends.length cap], .int .i64 i] w fun e w' =>
    ∃ v, e = .returned v ∧ NewEnds w.heap.size w' v (acr j i) ∧ Below w.heap.size w w' := by
  obtain ⟨hk, hl⟩ := jb3_len h3
  clear h3
  obtain ⟨kind, name, ends⟩ := j
  simp only at hk hl hi h
  have hkk : kind = 1 ∨ kind = 2 ∨ kind = 3 ∨ kind = 4 := by omega
  rcases hkk with rfl | rfl | rfl | rfl
  · match ends, (show ends.length = 1 by omega) with
    | [e0], _ =>
      have hii : i = 0 := by simp at hi; omega
      subst hii
      exact over_1_0 name a cap e0 w h
  · match ends, (show ends.length = 2 by omega) with
    | [e0, e1], _ =>
      have hii : i = 0 ∨ i = 1 := by simp at hi; omega
      rcases hii with rfl | rfl
      · exact over_2_0 name a cap e0 e1 w h
      · exact over_2_1 name a cap e0 e1 w h
  · match ends, (show ends.length = 3 by omega) with
    | [e0, e1, e2], _ =>
      have hii : i = 0 ∨ i = 1 ∨ i = 2 := by simp at hi; omega
      rcases hii with rfl | rfl | rfl
      · exact over_3_0 name a cap e0 e1 e2 w h
      · exact over_3_1 name a cap e0 e1 e2 w h
      · exact over_3_2 name a cap e0 e1 e2 w h
  · match ends, (show ends.length = 4 by omega) with
    | [e0, e1, e2, e3], _ =>
      have hii : i = 0 ∨ i = 1 ∨ i = 2 ∨ i = 3 := by simp at hi; omega
      rcases hii with rfl | rfl | rfl | rfl
      · exact over_4_0 name a cap e0 e1 e2 e3 w h
      · exact over_4_1 name a cap e0 e1 e2 e3 w h
      · exact over_4_2 name a cap e0 e1 e2 e3 w h
      · exact over_4_3 name a cap e0 e1 e2 e3 w h
end Go.Proofs.Ytplnppdlabpodaa

/- The cursor's small methods. Own work. -/
namespace Go.Proofs.Ytplnppdlabpodaa
open Go.RowKit
set_option maxHeartbeats 2000000

theorem room_any (q a wy len : Int) (w : World) (hwy : wy = 1 ∨ wy = -1) (hl : 0 ≤ len ∧ len ≤ 10000000) (ha : 0 ≤ a ∧ a ≤ 10000000) :
    Calls Try.prog 142 #[.agg #[.int .i64 q, .int .i64 a, .int .i64 wy], .int .i64 len] w fun e w' => e = .returned (.int .i64 (if wy = 1 then len - a else a)) ∧ Below w.heap.size w w' := by
  obtain ⟨hl0, hl1⟩ := hl
  obtain ⟨ha0, ha1⟩ := ha
  have hbA := (Below.refl w.heap.size w).alloc (Nat.le_refl _) (.cells #[.int .i64 q, .int .i64 a, .int .i64 wy] 52)
  rcases hwy with rfl | rfl
  all_goals
    go_enter Try.func142, Try.ntmps142
    go_wp2_with fail
    go_ret
    exact ⟨ret_i (by simp), hbA⟩

theorem facing_any (q a wy : Int) (w : World) (hwy : wy = 1 ∨ wy = -1) :
    Calls Try.prog 143 #[.agg #[.int .i64 q, .int .i64 a, .int .i64 wy]] w fun e w' => e = .returned (.agg #[.int .i64 (headP q wy).1, .int .i64 (headP q wy).2]) ∧ Below w.heap.size w w' := by
  rcases hwy with rfl | rfl
  · go_enter Try.func143, Try.ntmps143
    go_wp2_with fail
    exact bodyPost_ret (v := .agg #[.int .i64 q, .int .i64 1]) (by simp [results, Try.results143, go_sem]) rfl ⟨rfl, ((Below.refl _ _).alloc (Nat.le_refl _) _).alloc (by simp) _⟩
  · go_enter Try.func143, Try.ntmps143
    go_wp2_with fail
    exact bodyPost_ret (v := .agg #[.int .i64 q, .int .i64 0]) (by simp [results, Try.results143, go_sem]) rfl ⟨rfl, ((Below.refl _ _).alloc (Nat.le_refl _) _).alloc (by simp) _⟩

theorem halt_any (p : Value) (x y z : Int) (w : World) :
    Calls Try.prog 158 #[p, .agg #[.int .i64 x, .int .i64 y, .int .i64 z]] w fun e w' => e = .returned (.tuple #[.agg #[.int .i64 0, .int .i64 0], .int .i64 1]) ∧ Below w.heap.size w w' := by
  go_enter Try.func158, Try.ntmps158
  go_wp2_with fail
  refine bodyPost_ret (v := .tuple #[.agg #[.int .i64 0, .int .i64 0], .int .i64 1]) (by simp [results, Try.results158, go_sem]) rfl ⟨rfl, ?_⟩
  repeat (first | exact ((Below.refl _ _).alloc (Nat.le_refl _) _).alloc (by simp) _ | refine Below.setCell ?_ (by simp) _)

/-- The method value for a kind. -/
def passV (k : Int) (p : Value) : Value := if k = 1 then .func (.func 158) #[p] #[] else if k = 3 then .func (.func 159) #[p] #[] else .func (.func 160) #[p] #[]
/-- The interface value for a kind. -/
def kindV (k : Int) : Value := if k = 1 then .iface 181 (.agg #[]) else if k = 2 then .iface 154 (.agg #[]) else if k = 3 then .iface 155 (.agg #[]) else .iface 156 (.agg #[])
theorem kindOf_any (k : Int) (h : 1 ≤ k ∧ k ≤ 4) (w : World) : Calls Try.prog 113 #[.int .i64 k] w fun e w' => e = .returned (kindV k) ∧ w = w' := by
  have hk : k = 1 ∨ k = 2 ∨ k = 3 ∨ k = 4 := by omega
  rcases hk with rfl | rfl | rfl | rfl
  · exact kindOf_1 w
  · exact kindOf_2 w
  · exact kindOf_3 w
  · exact kindOf_4 w

theorem tb_1 (w : World) : (Instr.typeAssert (.iface 181 (.agg #[])) 151 181 true).run Try.prog w = .ok (.tuple #[.agg #[], .bool true]) w := by kernel_rfl
theorem tb_2 (w : World) : (Instr.typeAssert (.iface 154 (.agg #[])) 151 181 true).run Try.prog w = .ok (.tuple #[.agg #[], .bool false]) w := by kernel_rfl
theorem tb_3 (w : World) : (Instr.typeAssert (.iface 155 (.agg #[])) 151 181 true).run Try.prog w = .ok (.tuple #[.agg #[], .bool false]) w := by kernel_rfl
theorem tb_4 (w : World) : (Instr.typeAssert (.iface 156 (.agg #[])) 151 181 true).run Try.prog w = .ok (.tuple #[.agg #[], .bool false]) w := by kernel_rfl

theorem passing_1 (p : Value) (w : World) : Calls Try.prog 144 #[p, .iface 181 (.agg #[])] w fun e w' => e = .returned (.func (.func 158) #[p] #[]) ∧ w = w' := by
  have hmf : ∀ (fn : Fn) (first cap : Array Value) (w : World), (Instr.makeFunc fn first cap).run Try.prog w = .ok (.func fn first cap) w := fun _ _ _ _ => rfl
  have h1 := tb_1
  go_enter Try.func144, Try.ntmps144
  go_wp2_with fail
  go_ret
  exact ⟨rfl, rfl⟩
theorem passing_2 (p : Value) (w : World) : Calls Try.prog 144 #[p, .iface 154 (.agg #[])] w fun e w' => e = .returned (.func (.func 160) #[p] #[]) ∧ w = w' := by
  have hmf : ∀ (fn : Fn) (first cap : Array Value) (w : World), (Instr.makeFunc fn first cap).run Try.prog w = .ok (.func fn first cap) w := fun _ _ _ _ => rfl
  have h1 := tb_2
  have h3 := ta_2_3
  go_enter Try.func144, Try.ntmps144
  go_wp2_with fail
  go_ret
  exact ⟨rfl, rfl⟩
theorem passing_3 (p : Value) (w : World) : Calls Try.prog 144 #[p, .iface 155 (.agg #[])] w fun e w' => e = .returned (.func (.func 159) #[p] #[]) ∧ w = w' := by
  have hmf : ∀ (fn : Fn) (first cap : Array Value) (w : World), (Instr.makeFunc fn first cap).run Try.prog w = .ok (.func fn first cap) w := fun _ _ _ _ => rfl
  have h1 := tb_3
  have h3 := ta_3_3
  go_enter Try.func144, Try.ntmps144
  go_wp2_with fail
  go_ret
  exact ⟨rfl, rfl⟩
theorem passing_4 (p : Value) (w : World) : Calls Try.prog 144 #[p, .iface 156 (.agg #[])] w fun e w' => e = .returned (.func (.func 160) #[p] #[]) ∧ w = w' := by
  have hmf : ∀ (fn : Fn) (first cap : Array Value) (w : World), (Instr.makeFunc fn first cap).run Try.prog w = .ok (.func fn first cap) w := fun _ _ _ _ => rfl
  have h1 := tb_4
  have h3 := ta_4_3
  go_enter Try.func144, Try.ntmps144
  go_wp2_with fail
  go_ret
  exact ⟨rfl, rfl⟩
theorem passing_any (k : Int) (h : 1 ≤ k ∧ k ≤ 4) (p : Value) (w : World) : Calls Try.prog 144 #[p, kindV k] w fun e w' => e = .returned (passV k p) ∧ w = w' := by
  have hk : k = 1 ∨ k = 2 ∨ k = 3 ∨ k = 4 := by omega
  rcases hk with rfl | rfl | rfl | rfl
  · exact passing_1 p w
  · exact passing_2 p w
  · exact passing_3 p w
  · exact passing_4 p w
end Go.Proofs.Ytplnppdlabpodaa
