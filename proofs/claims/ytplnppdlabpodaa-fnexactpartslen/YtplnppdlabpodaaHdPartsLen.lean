/- FnExactPartsLen, proved. Own work. -/
import Derived.Test.YtplnppdlabpodaaPfPartsLen
import Derived.Test.YtplnppdlabpodaaImP
namespace Go.Proofs.Ytplnppdlabpodaa
theorem fnExactPartsLen_holds : Rows.FnExactPartsLenSaid := fnExactPartsLen_over fun a ps cap w _ hn hp => implPartsLen_any a ps cap w hn hp
end Go.Proofs.Ytplnppdlabpodaa
