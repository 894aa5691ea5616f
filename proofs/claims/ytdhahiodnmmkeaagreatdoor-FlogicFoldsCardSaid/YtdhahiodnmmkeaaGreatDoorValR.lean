/- The contract of the specification's Compare. -/
import Derived.Test.YtdhahiodnmmkeaaGreatDoorValC
import Derived.Test.YtdhahiodnmmkeaaGreatDoorMgb
namespace Go.Proofs.YtdhahiodnmmkeaaGreatDoor.Va
open Go Go.RowKit GM
attribute [local simp] DepA isB rsAt
end Go.Proofs.YtdhahiodnmmkeaaGreatDoor.Va
