/- The law FnExactAhead's walk, over whatever impl.Ahead answers as it should. Own work. -/
import Derived.Test.YtncanhbmbjoamaaGreatMxAY
namespace Go.Proofs.YtncanhbmbjoamaaGreat
open Go.RowKit
set_option maxHeartbeats 8000000

/-- impl.Ahead answers as it should. -/
def AheadDone : Prop := ∀ (a a' z : Option Addr) (N : Nt) (cap cap' zc : Nat) (xs : List Int) (q at' way far : Int) (w : World), Wf3 q at' way → (Lit.int .i64 far).wf = true → (∀ x ∈ xs, (Lit.int .i64 x).wf = true) → N.pcs.length ≤ 1048576 → (∀ p ∈ N.pcs, p.name.size ≤ 1048576) → N.jts.length ≤ 1048576 → (∀ j ∈ N.jts, j.name.size ≤ 1048576 ∧ j.ends.length ≤ 1048576) → xs.length ≤ 1048576 → PcsAt w a N.pcs → JtsAt w a' N.jts → IntsAt w z xs →
    Calls Tryz.prog 11 #[.agg #[.slice a N.pcs.length cap, .slice a' N.jts.length cap'], .slice z xs.length zc, .agg #[.int .i64 q, .int .i64 at', .int .i64 way], .int .i64 far] w fun e w' =>
    ∃ ps, AheadR N xs q at' way far ps ∧ ∃ v, e = .returned v ∧ w'.ownsRow w.heap.size 43 3 v ps.length (partCells ps) ∧ Below w.heap.size w w'

theorem keep88 {w w1 w2 w3 : World} {v0 v1 u0 u1 : Value} {q at' way : Int} {b : Nat} (hb : Below w2.heap.size w2 w3) (h : LS2 w w w2 v0 v1 q at' way b u0 u1 ∧ Hid (Below w1.heap.size w1 w2)) : LS2 w w w3 v0 v1 q at' way b u0 u1 ∧ Hid (Below w1.heap.size w1 w3) :=
  ⟨keepL2 hb h.1, h.2.out.trans (hb.mono h.2.out.size)⟩

theorem keep19 {w w1 w2 w3 : World} {v0 v1 : Value} {q at' way : Int} (hb : Below w2.heap.size w2 w3) (h : LS w w w2 v0 v1 q at' way ∧ Hid (Below w1.heap.size w1 w2)) : LS w w w3 v0 v1 q at' way ∧ Hid (Below w1.heap.size w1 w3) :=
  ⟨keepL hb h.1, h.2.out.trans (hb.mono h.2.out.size)⟩

end Go.Proofs.YtncanhbmbjoamaaGreat
