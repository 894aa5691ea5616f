/- Merged: AddrRefB AddrRefC. -/
import Derived.Test.YtelanmknimapoaaGreatDoorAddrRead
import Derived.Test.YtelanmknimapoaaGreatDoorMgf
import Derived.Test.YtelanmknimapoaaGreatDoorAddrMathB
/- Contracts of the specification's reading of columns and addresses. -/
namespace Go.Proofs.YtelanmknimapoaaGreatDoor.Re
open Go.RowKit AM
theorem retI {k : IntKind} {a b : Int} (h : a = b) : Ending.returned (.int k a) = .returned (.int k b) := by rw [h]
end Go.Proofs.YtelanmknimapoaaGreatDoor.Re
/- The contract of the specification's reading of an address. -/
namespace Go.Proofs.YtelanmknimapoaaGreatDoor.Re
open Go.RowKit AM
theorem data_get (s : ByteArray) (k : Nat) (h : k < s.size) : s.data.toList[k]'(by simpa using h) = s[k]'h := rfl
theorem zuj (s : ByteArray) (n : Nat) : (s.extract 0 n).data.toList = s.data.toList.take n := by
 rw [ByteArray.data_extract, Array.toList_extract]; simp
end Go.Proofs.YtelanmknimapoaaGreatDoor.Re
