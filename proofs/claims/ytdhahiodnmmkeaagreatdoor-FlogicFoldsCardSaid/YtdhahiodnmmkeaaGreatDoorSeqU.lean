/- A region that draws its order and ends in stores and assignments that wait for all before them. -/
import Derived.Test.YtdhahiodnmmkeaaGreatDoorMge
namespace Go.Proofs.YtdhahiodnmmkeaaGreatDoor
open Go Go.RowKit
section
variable {P : Program} {ops : Array Oper} {Q : Exit → Act → World → Prop}
def mskU (k : Nat) (T : Nat → Bool) : Nat → Bool := fun i => decide (k ≤ i) && T i
end
end Go.Proofs.YtdhahiodnmmkeaaGreatDoor
