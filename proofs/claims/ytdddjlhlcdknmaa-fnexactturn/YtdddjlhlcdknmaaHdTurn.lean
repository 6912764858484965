/- FnExactTurn, proved. Own work. -/
import Derived.Test.YtdddjlhlcdknmaaPfTurn
import Derived.Test.YtdddjlhlcdknmaaImT
namespace Go.Proofs.Ytdddjlhlcdknmaa
theorem fnExactTurn_holds : Rows.FnExactTurnSaid := fnExactTurn_over implTurn_any
end Go.Proofs.Ytdddjlhlcdknmaa
