/- roll, looking to end 1. Own work, written by gen_roll.py. -/
import Derived.Test.YtldafgbhjpfboaaMxAY
import Derived.Lib.QuietBelow
import Derived.BigQuiet
import Derived.Deep.RegionHeld3
import Derived.Deep.AppendLies
namespace Go.Proofs.Ytldafgbhjpfboaa
open Go.RowKit Go.Sort
set_option maxHeartbeats 8000000
set_option maxRecDepth 20000
set_option linter.unusedSimpArgs false

theorem room_q (q a wy len : Int) (w : World) (hwy : wy = 1 ∨ wy = -1) (hl : 0 ≤ len ∧ len ≤ 10000000) (ha : 0 ≤ a ∧ a ≤ 10000000) (d : Nat) (os : Array Obj) :
    Calls Try.prog 62 #[.agg #[.int .i64 q, .int .i64 a, .int .i64 wy], .int .i64 len] (grow (redrawn w d) os) fun e w'' => e = .returned (.int .i64 (if wy = 1 then len - a else a)) ∧ ∃ p : Regrown, w'' = grow (redrawn w p.d) p.os :=
  Calls.regrown_of (room_any q a wy len _ hwy hl ha)

end Go.Proofs.Ytldafgbhjpfboaa
