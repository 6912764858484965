/- FnExactPathLies, proved. Own work. -/
import Derived.Test.YtplnppdlabpodaaPfPathLies
namespace Go.Proofs.Ytplnppdlabpodaa
theorem fnExactPathLies_holds : Rows.FnExactPathLiesSaid := fnExactPathLies_over
end Go.Proofs.Ytplnppdlabpodaa
