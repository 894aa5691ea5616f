/- Contract of group.Of. -/
import Derived.Test.YtelanmknimapoaaGreatDoorBitA
import Derived.RegionTactic
namespace Go.Proofs.YtelanmknimapoaaGreatDoor
open Go.RowKit
def orL (L : List Nat) : W64 := L.foldl (fun s u => s ||| (1#64 <<< u)) 0#64
theorem orL_snoc (L : List Nat) (u : Nat) : orL (L ++ [u]) = orL L ||| (1#64 <<< u) := by unfold orL; rw [List.foldl_append]; rfl
theorem shl_one (y : Nat) : IntKind.u64.wrap ((2 : Int) ^ y) = ((1#64 <<< y).toNat : Int) := by
  rw [BitVec.toNat_shiftLeft]
  simp [IntKind.wrap, IntKind.bits, IntKind.signed, Nat.shiftLeft_eq]
end Go.Proofs.YtelanmknimapoaaGreatDoor
