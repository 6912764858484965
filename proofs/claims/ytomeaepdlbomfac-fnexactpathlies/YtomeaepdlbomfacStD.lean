import Derived.Test.YtomeaepdlbomfacStC
namespace Go.Proofs.Ytomeaepdlbomfac
open Go.RowKit
set_option maxHeartbeats 1000000

def goodP (N : Nt) (xs : List Int) (q at' way far : Int) : Bool := decide (netOk N = (0, 0)) && liesP N.jts xs && spotP N q at' way && inR far 0 1000000

end Go.Proofs.Ytomeaepdlbomfac
