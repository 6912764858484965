/- FnTop, proved. Own work. -/
import Derived.Test.YteapmddadieohaaPfTop
namespace Go.Proofs.Yteapmddadieohaa
theorem fnTop_holds : Rows.FnTopSaid := fnTop_over
end Go.Proofs.Yteapmddadieohaa
