/- Where the colon of a range's text lies, and the contract of strings.Cut at it. -/
import Derived.Test.YtelanmknimapoaaGreatDoorShelfItoa
import Derived.Shelf.Strings.Search2
import Derived.Shelf.Strings.Cut
import Derived.Test.YtelanmknimapoaaGreatDoorProg
import Derived.Lib.IndexLaws
import Derived.WalkKit
import Derived.WalkSpells
import Derived.WalkLawsBesides
import Derived.Lib.Hide
import Derived.BigQuiet
import Derived.Deep.QuietTactic
import Derived.Outline
namespace Go.Proofs.YtelanmknimapoaaGreatDoor.Re
open Go.RowKit
/-- The place of the first colon; the length if there is none. -/
def colon (l : List UInt8) : Nat := if Lib.indexByte l 58 = -1 then l.length else (Lib.indexByte l 58).toNat
end Go.Proofs.YtelanmknimapoaaGreatDoor.Re
