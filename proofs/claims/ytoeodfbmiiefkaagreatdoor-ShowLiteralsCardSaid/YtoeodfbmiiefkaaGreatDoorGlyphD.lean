/- Contracts of Trim: the program's and the specification's. -/
import Derived.Test.YtoeodfbmiiefkaaGreatDoorOwnB
import Derived.Test.YtoeodfbmiiefkaaGreatDoorShelfGlyph
namespace Go.Proofs.YtoeodfbmiiefkaaGreatDoor
open Go.RowKit GM
theorem kp_next (s : ByteArray) (k : Nat) (h : k < s.size) : kp false (s.data.toList.take (k + 1)) = kp false (s.data.toList.take k) ++ (if s[k] = 32 then (if lastN false (s.data.toList.take k) then [32] else []) else [s[k]]) := by
  rw [take_snoc s k h, kp_snoc]
theorem lastN_at (s : ByteArray) (k : Nat) (h : k < s.size) : lastN false (s.data.toList.take (k + 1)) = (s[k] != 32) := by rw [take_snoc s k h, lastN_snoc]
theorem byte_ne (c : UInt8) (h : ¬ (c.toNat : Int) = 32) : c ≠ 32 := fun e => h (by rw [e]; rfl)
theorem byte_eq (c : UInt8) (h : (c.toNat : Int) = 32) : c = 32 := UInt8.toNat_inj.1 (by have : (32 : UInt8).toNat = 32 := rfl; omega)
theorem tr_next (s : ByteArray) (k : Nat) (h : k < s.size) : tr false false (s.data.toList.take (k + 1)) = tr false false (s.data.toList.take k) ++ (if s[k] = 32 then [] else if (!(tr false false (s.data.toList.take k)).isEmpty) && !(lastN true (s.data.toList.take k)) then [32, s[k]] else [s[k]]) := by
  rw [take_snoc s k h, tr_snoc]; rfl
theorem lastT_at (s : ByteArray) (k : Nat) (h : k < s.size) : lastN true (s.data.toList.take (k + 1)) = (s[k] != 32) := by rw [take_snoc s k h, lastN_snoc]
end Go.Proofs.YtoeodfbmiiefkaaGreatDoor
