/- FnExactSpotOk, proved. Own work. -/
import Derived.Test.YthlgdnkbkemcbabPfSpotOk
import Derived.Test.YthlgdnkbkemcbabImS
namespace Go.Proofs.Ythlgdnkbkemcbab
theorem fnExactSpotOk_holds : Rows.FnExactSpotOkSaid := fnExactSpotOk_over implSpotOk_any
end Go.Proofs.Ythlgdnkbkemcbab
