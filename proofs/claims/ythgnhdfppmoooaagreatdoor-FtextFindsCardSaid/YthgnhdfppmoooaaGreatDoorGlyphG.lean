/- The contract of the specification's Unquote. -/
import Derived.Test.YthgnhdfppmoooaaGreatDoorGlyphF
namespace Go.Proofs.YthgnhdfppmoooaaGreatDoor
open Go.RowKit GM
theorem inner_at (s : ByteArray) (k : Nat) (h : k + 2 < s.size) : (inner s.data.toList)[k]'(by unfold inner; simp; omega) = s[k + 1] := by
  unfold inner
  rw [List.getElem_take, List.getElem_drop]
  have := data_get s (k + 1) (by omega)
  rw [← this]
  congr 1
  omega
theorem inner_len (s : ByteArray) : (inner s.data.toList).length = s.size - 2 := by unfold inner; simp; omega
end Go.Proofs.YthgnhdfppmoooaaGreatDoor
