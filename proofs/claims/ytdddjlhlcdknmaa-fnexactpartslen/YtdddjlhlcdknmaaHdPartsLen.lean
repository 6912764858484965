/- FnExactPartsLen, proved. Own work. -/
import Derived.Test.YtdddjlhlcdknmaaPfPartsLen
import Derived.Test.YtdddjlhlcdknmaaImP
namespace Go.Proofs.Ytdddjlhlcdknmaa
theorem fnExactPartsLen_holds : Rows.FnExactPartsLenSaid := fnExactPartsLen_over fun a ps cap w _ hn hp => implPartsLen_any a ps cap w hn hp
end Go.Proofs.Ytdddjlhlcdknmaa
