import Derived.Test.YtomeaepdlbomfacNm
import Derived.Test.YtomeaepdlbomfacTo
import Derived.Test.YtomeaepdlbomfacJaA
import Derived.Deep.QuietTactic
import Derived.BigQuiet
import Derived.Deep.RegionWith
namespace Go.Proofs.Ytomeaepdlbomfac
open Go.RowKit
set_option maxHeartbeats 1000000

def lenAt (N : Nt) (q : Int) : Int := match N.pcs[q.toNat]? with
  | some p => p.len
  | none => 0
def spotP (N : Nt) (q at' way : Int) : Bool := inR q 0 ((N.pcs.length : Int) - 1) && (way == 1 || way == -1) && inR at' 0 (lenAt N q)

theorem l1in_b {x a b : Int} {r : Bool} (h : inR x a b = r) (w : World) : Calls Try.prog 20 #[.int .i64 x, .int .i64 a, .int .i64 b] w fun e w' =>
    e = .returned (.bool r) ∧ w' = w := (l1in_any x a b w).mono fun _ _ h' => ⟨by rw [h'.1, h], h'.2.symm⟩

end Go.Proofs.Ytomeaepdlbomfac
