import Derived.Test.YtplnppdlabpodaaTo
namespace Go.Proofs.Ytplnppdlabpodaa
open Go.RowKit
set_option maxHeartbeats 400000

theorem eqFault_same (c a : Int) (w : World) : Calls Try.prog 18 #[.agg #[.int .i64 c, .int .i64 a], .agg #[.int .i64 c, .int .i64 a]] w fun e w' =>
    e = .returned (.bool true) ∧ Below w.heap.size w w' := by
  go_enter Try.func18, Try.ntmps18
  go_wp2
  go_ret
  exact ⟨rfl, ((Below.refl _ _).alloc (Nat.le_refl _) _).alloc (by simp) _⟩
end Go.Proofs.Ytplnppdlabpodaa
