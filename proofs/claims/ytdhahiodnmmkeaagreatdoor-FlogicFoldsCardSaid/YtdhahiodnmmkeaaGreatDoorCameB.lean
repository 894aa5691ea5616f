/- Bools that came in. -/
import Derived.Test.YtdhahiodnmmkeaaGreatDoorValA
import Derived.ChangeArms
import Derived.DataShut
namespace Go.Proofs.YtdhahiodnmmkeaaGreatDoor.Va
open Go Go.RowKit
def cellsB (b : Bool) : List Value := [.bool b]
theorem cellsB_len (b : Bool) : (cellsB b).length = 1 := rfl
section
variable {H : Type} {enc : TypeId × Value → H} {w : World} {base : Nat} {spare : Nat → Bool} {held : Bool} {fuel : Nat} {cs : List Value} {y : DataW H × List MemPlace}
theorem bool_came (h : DataW.trod enc Tryz.prog w base spare held fuel 4 cs = some y) : ∃ b : Bool, cs = cellsB b := by
  obtain ⟨b, e, _⟩ := DataW.trod_bool Tryz.underlying4 h
  exact ⟨b, e⟩
end
end Go.Proofs.YtdhahiodnmmkeaaGreatDoor.Va
