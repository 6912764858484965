/- spec.l4lies, spec.PathLies. Own work. -/
import Derived.Test.YtldafgbhjpfboaaMxAP
namespace Go.Proofs.Ytldafgbhjpfboaa
open Go.RowKit
set_option maxHeartbeats 8000000

end Go.Proofs.Ytldafgbhjpfboaa
