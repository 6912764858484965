/- FnExactTouch, proved. Own work. -/
import Derived.Test.YthlgdnkbkemcbabPfTouch
import Derived.Test.YthlgdnkbkemcbabTcG
namespace Go.Proofs.Ythlgdnkbkemcbab
theorem fnExactTouch_holds : Rows.FnExactTouchSaid := fnExactTouch_over implTouch_any
end Go.Proofs.Ythlgdnkbkemcbab
