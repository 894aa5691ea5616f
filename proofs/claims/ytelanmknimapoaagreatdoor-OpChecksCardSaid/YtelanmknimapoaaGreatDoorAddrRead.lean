import Derived.Test.YtelanmknimapoaaGreatDoorProg
import Derived.Test.YtelanmknimapoaaGreatDoorAddrMath
import Derived.WalkKit
import Derived.WalkSpells
import Derived.WalkLawsBesides
import Derived.Lib.Hide
import Derived.BigQuiet
import Derived.Deep.QuietTactic
import Derived.Outline
import Derived.RegionTactic
import Derived.BigRegion
import Derived.StillTailTactics
import Derived.Deep.DeepCutAuto
namespace Go.Proofs.YtelanmknimapoaaGreatDoor.Re
open Go.RowKit AM
/-- Block b holds what was read, the block behind it the two bases. -/
def Wd (w : World) (b : Nat) (n1 n2 v1 v2 : Int) : Prop :=
  b + 1 < w.heap.size ∧ w.cell? ⟨b, 0, none⟩ = some (.int .i64 0) ∧ w.cell? ⟨b, 1, none⟩ = some (.int .i64 n1) ∧ w.cell? ⟨b, 2, none⟩ = some (.int .i64 n2) ∧
  w.cell? ⟨b, 3, none⟩ = some (.int .i64 0) ∧ w.cell? ⟨b, 4, none⟩ = some (.int .i64 v1) ∧ w.cell? ⟨b, 5, none⟩ = some (.int .i64 v2) ∧
  w.cell? ⟨b + 1, 1, none⟩ = some (.int .i64 26) ∧ w.cell? ⟨b + 1, 2, none⟩ = some (.int .i64 10) ∧
  (∀ o, w.frozen? ⟨b, o, none⟩ = false)
theorem take_snoc (s : ByteArray) (k : Nat) (h : k < s.size) : s.data.toList.take (k + 1) = s.data.toList.take k ++ [s[k]'h] := by
  rw [List.take_succ_eq_append_getElem (by simpa using h)]; rfl
end Go.Proofs.YtelanmknimapoaaGreatDoor.Re
