/- spec.PathLies. Own work. -/
import Derived.Test.YtncanhbmbjoamacGreatWsB
import Derived.Test.YtncanhbmbjoamacGreatMxAH
namespace Go.Proofs.YtncanhbmbjoamacGreat
open Go.RowKit
set_option maxHeartbeats 4000000

end Go.Proofs.YtncanhbmbjoamacGreat
