/- The order of texts. No run in this file. -/
import Derived.Test.YtdhahiodnmmkeaaGreatDoorGlyphMath
import GoSem.Op.String
namespace Go.Proofs.YtdhahiodnmmkeaaGreatDoor.GM
open Go
def cmpS (a b : List UInt8) : Int := Lib.compareBytes (a.map up) (b.map up)
end Go.Proofs.YtdhahiodnmmkeaaGreatDoor.GM
