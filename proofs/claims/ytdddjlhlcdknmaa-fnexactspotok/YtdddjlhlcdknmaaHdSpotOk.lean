/- FnExactSpotOk, proved. Own work. -/
import Derived.Test.YtdddjlhlcdknmaaPfSpotOk
import Derived.Test.YtdddjlhlcdknmaaImS
namespace Go.Proofs.Ytdddjlhlcdknmaa
theorem fnExactSpotOk_holds : Rows.FnExactSpotOkSaid := fnExactSpotOk_over implSpotOk_any
end Go.Proofs.Ytdddjlhlcdknmaa
