/- Contracts of the specification's Plain, Check, Upper, Lower. -/
import Derived.Test.YtbblephlijbehaaGreatDoorGlyphB
namespace Go.Proofs.YtbblephlijbehaaGreatDoor.Gl
open Go.RowKit GM
end Go.Proofs.YtbblephlijbehaaGreatDoor.Gl
