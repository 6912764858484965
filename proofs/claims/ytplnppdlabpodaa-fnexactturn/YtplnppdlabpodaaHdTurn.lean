/- FnExactTurn, proved. Own work. -/
import Derived.Test.YtplnppdlabpodaaPfTurn
import Derived.Test.YtplnppdlabpodaaImT
namespace Go.Proofs.Ytplnppdlabpodaa
theorem fnExactTurn_holds : Rows.FnExactTurnSaid := fnExactTurn_over implTurn_any
end Go.Proofs.Ytplnppdlabpodaa
