/- Contracts of the specification's products and quotients (louvreref01.Times, Divide, Nearest, Mul, Quo). -/
import Derived.Test.YtdhahiodnmmkeaaGreatDoorHold
import Derived.Test.YtdhahiodnmmkeaaGreatDoorRefMath
import Derived.Laws.ResultCell
namespace Go.Proofs.YtdhahiodnmmkeaaGreatDoor
open Go.RowKit

theorem Hold.set1 {w : World} {b : Nat} {h l : Int} (x : Hold w b h l) (l' : Int) : Hold (w.setCell ⟨b, 1, none⟩ (.int .u64 l')) b h l' := by
  obtain ⟨h0, h1, h2, h3, h4⟩ := x
  refine ⟨by simpa using h0, ?_, World.cell?_setCell_same _ _ _ h2, by simpa using h3, by simpa using h4⟩
  rw [World.cell?_setCell_other _ _ _ _ (by simp)]; exact h1
end Go.Proofs.YtdhahiodnmmkeaaGreatDoor
