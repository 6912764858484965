/- FnExactTouch, proved. Own work. -/
import Derived.Test.YtplnppdlabpodaaPfTouch
import Derived.Test.YtplnppdlabpodaaTcG
namespace Go.Proofs.Ytplnppdlabpodaa
theorem fnExactTouch_holds : Rows.FnExactTouchSaid := fnExactTouch_over implTouch_any
end Go.Proofs.Ytplnppdlabpodaa
