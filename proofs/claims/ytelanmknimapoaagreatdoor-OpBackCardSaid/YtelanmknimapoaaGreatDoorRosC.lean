/- Contract of group.Of. -/
import Derived.Test.YtelanmknimapoaaGreatDoorBitA
import Derived.RegionTactic
namespace Go.Proofs.YtelanmknimapoaaGreatDoor
open Go.RowKit
theorem zuv (y : Nat) : IntKind.u64.wrap ((2 : Int) ^ y) = ((1#64 <<< y).toNat : Int) := by
 rw [BitVec.toNat_shiftLeft]
 simp [IntKind.wrap, IntKind.bits, IntKind.signed, Nat.shiftLeft_eq]
end Go.Proofs.YtelanmknimapoaaGreatDoor
