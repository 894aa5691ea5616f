/- Contracts of the specification's Plain, Check, Upper, Lower. -/
import Derived.Test.YthgnhdfppmoooaaGreatDoorGlyphB
namespace Go.Proofs.YthgnhdfppmoooaaGreatDoor
open Go.RowKit GM
end Go.Proofs.YthgnhdfppmoooaaGreatDoor
