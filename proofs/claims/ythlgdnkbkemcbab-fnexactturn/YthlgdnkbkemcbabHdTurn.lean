/- FnExactTurn, proved. Own work. -/
import Derived.Test.YthlgdnkbkemcbabPfTurn
import Derived.Test.YthlgdnkbkemcbabImT
namespace Go.Proofs.Ythlgdnkbkemcbab
theorem fnExactTurn_holds : Rows.FnExactTurnSaid := fnExactTurn_over implTurn_any
end Go.Proofs.Ythlgdnkbkemcbab
