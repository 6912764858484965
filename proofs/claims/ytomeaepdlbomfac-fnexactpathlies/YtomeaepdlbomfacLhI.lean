/- The laws' own helpers on lists of numbers. Own work. -/
import Derived.Test.YtomeaepdlbomfacStC
import Derived.Test.YtomeaepdlbomfacTo
namespace Go.Proofs.Ytomeaepdlbomfac
open Go.RowKit
set_option maxHeartbeats 2000000

theorem info_Int : (Try.prog.info? 3).map (fun i => (i.zero, i.size, i.bytes)) = some (some (.int .i64 0), 1, 8) := by kernel_rfl

end Go.Proofs.Ytomeaepdlbomfac
