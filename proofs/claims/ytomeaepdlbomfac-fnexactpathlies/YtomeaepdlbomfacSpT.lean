import Derived.Test.YtomeaepdlbomfacTo
namespace Go.Proofs.Ytomeaepdlbomfac
open Go.RowKit
set_option maxHeartbeats 2000000

end Go.Proofs.Ytomeaepdlbomfac
