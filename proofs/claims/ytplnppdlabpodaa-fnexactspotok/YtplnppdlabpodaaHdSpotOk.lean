/- FnExactSpotOk, proved. Own work. -/
import Derived.Test.YtplnppdlabpodaaPfSpotOk
import Derived.Test.YtplnppdlabpodaaImS
namespace Go.Proofs.Ytplnppdlabpodaa
theorem fnExactSpotOk_holds : Rows.FnExactSpotOkSaid := fnExactSpotOk_over implSpotOk_any
end Go.Proofs.Ytplnppdlabpodaa
