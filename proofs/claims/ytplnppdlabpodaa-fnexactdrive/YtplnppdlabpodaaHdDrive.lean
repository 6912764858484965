/- FnExactDrive, proved. Own work. -/
import Derived.Test.YtplnppdlabpodaaPfDrive
import Derived.Test.YtplnppdlabpodaaImDr
namespace Go.Proofs.Ytplnppdlabpodaa
theorem fnExactDrive_holds : Rows.FnExactDriveSaid := fnExactDrive_over implDrive_any
end Go.Proofs.Ytplnppdlabpodaa
