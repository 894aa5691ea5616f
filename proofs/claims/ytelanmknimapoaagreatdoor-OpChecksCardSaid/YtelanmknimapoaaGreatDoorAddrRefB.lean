/- Contracts of the specification's reading of columns and addresses. -/
import Derived.Test.YtelanmknimapoaaGreatDoorAddrRead
import Derived.Test.YtelanmknimapoaaGreatDoorMgd
import Derived.Test.YtelanmknimapoaaGreatDoorAddrMath
namespace Go.Proofs.YtelanmknimapoaaGreatDoor.Re
open Go.RowKit AM
theorem retI {k : IntKind} {a b : Int} (h : a = b) : Ending.returned (.int k a) = .returned (.int k b) := by rw [h]
end Go.Proofs.YtelanmknimapoaaGreatDoor.Re
