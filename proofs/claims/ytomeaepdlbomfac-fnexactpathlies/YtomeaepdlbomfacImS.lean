/- impl.SpotOk, impl.Turn. Own work. -/
import Derived.Test.YtomeaepdlbomfacSpD
import Derived.Test.YtomeaepdlbomfacImH
import Derived.Lib.QuietBelow
import Derived.BigQuiet
namespace Go.Proofs.Ytomeaepdlbomfac
open Go.RowKit Go.Sort
set_option maxHeartbeats 4000000

theorem inRange_b {x a b : Int} {r : Bool} (h : inR x a b = r) (w : World) : Calls Try.prog 58 #[.int .i64 x, .int .i64 a, .int .i64 b] w fun e w' =>
    e = .returned (.bool r) ∧ w = w' := (inRange_any x a b w).mono fun _ _ h' => ⟨by rw [h'.1, h], h'.2⟩
theorem inRange_q {x a b : Int} {r : Bool} (h : inR x a b = r) (w : World) (d : Nat) (os : Array Obj) : Calls Try.prog 58 #[.int .i64 x, .int .i64 a, .int .i64 b] (grow (redrawn w d) os) fun e w'' =>
    e = .returned (.bool r) ∧ ∃ p : Regrown, w'' = grow (redrawn w p.d) p.os := Calls.regrown_of ((inRange_b h _).mono fun _ _ h' => ⟨h'.1, h'.2 ▸ Below.refl _ _⟩)
theorem implNetOk_q (a a' : Option Addr) (N : Nt) (cap cap' : Nat) (w : World) {x y : Int} (hr : netOk N = (x, y)) (hn : N.pcs.length ≤ 1048576) (hs : ∀ p ∈ N.pcs, p.name.size ≤ 1048576) (hl : N.jts.length ≤ 1048576) (hm : ∀ j ∈ N.jts, j.name.size ≤ 1048576 ∧ j.ends.length ≤ 1048576) (hp : PcsAt w a N.pcs) (hj : JtsAt w a' N.jts) (d : Nat) (os : Array Obj) :
    Calls Try.prog 40 #[.agg #[.slice a N.pcs.length cap, .slice a' N.jts.length cap']] (grow (redrawn w d) os) fun e w'' =>
    e = .returned (.agg #[.int .i64 x, .int .i64 y]) ∧ ∃ p : Regrown, w'' = grow (redrawn w p.d) p.os :=
  Calls.regrown_of ((implNetOk_any a a' N cap cap' _ hn hs hl hm (hp.later (below_regrown w d os)) (hj.later (below_regrown w d os))).mono fun _ _ h' => ⟨by rw [h'.1, hr], h'.2⟩)

end Go.Proofs.Ytomeaepdlbomfac
