/- spec.l4lies, spec.PathLies. Own work. -/
import Derived.Test.YtijdigdcmjdooaaGreatMxAQ
namespace Go.Proofs.YtijdigdcmjdooaaGreat
open Go.RowKit
set_option maxHeartbeats 8000000

end Go.Proofs.YtijdigdcmjdooaaGreat
