/- Contracts of Compare: the program's and the specification's. -/
import Derived.Test.YthgnhdfppmoooaaGreatDoorGlyphG
import Derived.Test.YthgnhdfppmoooaaGreatDoorGlyphMathB
namespace Go.Proofs.YthgnhdfppmoooaaGreatDoor
open Go.RowKit GM
end Go.Proofs.YthgnhdfppmoooaaGreatDoor
