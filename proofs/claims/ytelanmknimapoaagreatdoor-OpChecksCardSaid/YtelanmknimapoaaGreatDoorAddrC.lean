/- Contracts of addr.Parse, addr.Column and addr.Format. -/
import Derived.Test.YtelanmknimapoaaGreatDoorMgd
import Derived.Test.YtelanmknimapoaaGreatDoorAddrRead
import Derived.Test.YtelanmknimapoaaGreatDoorShelfItoa
namespace Go.Proofs.YtelanmknimapoaaGreatDoor.Re
open Go.RowKit AM
theorem letsN_le (c : Int) : (letsN c).length ≤ 3 := by
  unfold letsN; split
  · simp
  · split <;> simp
/-- What Format writes: the letters and the digits. -/
def fmtL (c r : Int) : List UInt8 := lets c ++ Lib.itoa r
theorem str_add (a : List Int) (b : List UInt8) : strOfNums a ++ (⟨b.toArray⟩ : ByteArray) = ⟨((a.map fun n => UInt8.ofNat n.toNat) ++ b).toArray⟩ := by
  apply ByteArray.ext
  simp [strOfNums]
theorem retS {a b : ByteArray} {c : Int} (h : a = b) : Ending.returned (.tuple #[.string a, .int .i64 c]) = .returned (.tuple #[.string b, .int .i64 c]) := by rw [h]
end Go.Proofs.YtelanmknimapoaaGreatDoor.Re
