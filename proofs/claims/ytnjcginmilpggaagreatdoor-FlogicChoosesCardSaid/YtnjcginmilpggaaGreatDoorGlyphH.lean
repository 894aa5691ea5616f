/- Contracts of Compare: the program's and the specification's. -/
import Derived.Test.YtnjcginmilpggaaGreatDoorGlyphG
import Derived.Test.YtnjcginmilpggaaGreatDoorGlyphMathB
namespace Go.Proofs.YtnjcginmilpggaaGreatDoor
open Go.RowKit GM
end Go.Proofs.YtnjcginmilpggaaGreatDoor
