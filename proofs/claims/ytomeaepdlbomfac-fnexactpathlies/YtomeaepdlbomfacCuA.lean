/- The cursor's small methods. Own work. -/
import Derived.Test.YtomeaepdlbomfacDrS
import Derived.Test.YtomeaepdlbomfacOvA
namespace Go.Proofs.Ytomeaepdlbomfac
open Go.RowKit
set_option maxHeartbeats 2000000

theorem facing_any (q a wy : Int) (w : World) (hwy : wy = 1 ∨ wy = -1) :
    Calls Try.prog 70 #[.agg #[.int .i64 q, .int .i64 a, .int .i64 wy]] w fun e w' => e = .returned (.agg #[.int .i64 (headP q wy).1, .int .i64 (headP q wy).2]) ∧ Below w.heap.size w w' := by
  rcases hwy with rfl | rfl
  · go_enter Try.func70, Try.ntmps70
    go_wp2_with fail
    exact bodyPost_ret (v := .agg #[.int .i64 q, .int .i64 1]) (by simp [results, Try.results70, go_sem]) rfl ⟨rfl, ((Below.refl _ _).alloc (Nat.le_refl _) _).alloc (by simp) _⟩
  · go_enter Try.func70, Try.ntmps70
    go_wp2_with fail
    exact bodyPost_ret (v := .agg #[.int .i64 q, .int .i64 0]) (by simp [results, Try.results70, go_sem]) rfl ⟨rfl, ((Below.refl _ _).alloc (Nat.le_refl _) _).alloc (by simp) _⟩

/-- The interface value for a kind. -/
def kindV (k : Int) : Value := if k = 1 then .iface 133 (.agg #[]) else if k = 2 then .iface 127 (.agg #[]) else if k = 3 then .iface 128 (.agg #[]) else .iface 129 (.agg #[])
theorem kindOf_any (k : Int) (h : 1 ≤ k ∧ k ≤ 4) (w : World) : Calls Try.prog 72 #[.int .i64 k] w fun e w' => e = .returned (kindV k) ∧ w = w' := by
  have hk : k = 1 ∨ k = 2 ∨ k = 3 ∨ k = 4 := by omega
  rcases hk with rfl | rfl | rfl | rfl
  · exact kindOf_1 w
  · exact kindOf_2 w
  · exact kindOf_3 w
  · exact kindOf_4 w

theorem tb_1 (w : World) : (Instr.typeAssert (.iface 133 (.agg #[])) 124 133 true).run Try.prog w = .ok (.tuple #[.agg #[], .bool true]) w := by kernel_rfl
theorem tb_2 (w : World) : (Instr.typeAssert (.iface 127 (.agg #[])) 124 133 true).run Try.prog w = .ok (.tuple #[.agg #[], .bool false]) w := by kernel_rfl
theorem tb_3 (w : World) : (Instr.typeAssert (.iface 128 (.agg #[])) 124 133 true).run Try.prog w = .ok (.tuple #[.agg #[], .bool false]) w := by kernel_rfl
theorem tb_4 (w : World) : (Instr.typeAssert (.iface 129 (.agg #[])) 124 133 true).run Try.prog w = .ok (.tuple #[.agg #[], .bool false]) w := by kernel_rfl

end Go.Proofs.Ytomeaepdlbomfac
