/- FnExactPartsLen, proved. Own work. -/
import Derived.Test.YthlgdnkbkemcbabPfPartsLen
import Derived.Test.YthlgdnkbkemcbabImP
namespace Go.Proofs.Ythlgdnkbkemcbab
theorem fnExactPartsLen_holds : Rows.FnExactPartsLenSaid := fnExactPartsLen_over fun a ps cap w _ hn hp => implPartsLen_any a ps cap w hn hp
end Go.Proofs.Ythlgdnkbkemcbab
