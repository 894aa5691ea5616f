/- The methods of ftext's arguments: concat, repeat, find. -/
import Derived.Test.YtdhahiodnmmkeaaGreatDoorMgg
import Derived.Test.YtdhahiodnmmkeaaGreatDoorShelfTxt
import Derived.Shelf.Strings.OnBuilder
import Derived.Shelf.Strings.Repeat
import Derived.Shelf.Strings.Search3
import Derived.Test.YtdhahiodnmmkeaaGreatDoorProg
import Derived.Test.YtdhahiodnmmkeaaGreatDoorMgc
namespace Go.Proofs.YtdhahiodnmmkeaaGreatDoor.Va
open Go Go.RowKit GM
set_option linter.unusedVariables false
set_option linter.unusedSimpArgs false
def joinB (T : List ByteArray) : ByteArray := ⟨(Lib.join (T.map (·.data.toList)) []).toArray⟩
def repS (s : ByteArray) (c : Nat) : ByteArray := ⟨(Lib.repeatL s.data.toList c).toArray⟩
def reptV (s : ByteArray) (n : Int) : V3 := if n < 0 ∨ (s ≠ ⟨#[]⟩ ∧ 256 < n) then badV else txV (repS s (min n 256).toNat)
def fndI (s t : ByteArray) (f : Int) : Int := Lib.index (t.extract (f.toNat - 1) t.size).data.toList s.data.toList
def findV (s t : ByteArray) (f : Int) : V3 := if f < 1 ∨ (t.size : Int) + 1 < f then badV else if fndI s t f < 0 then badV else cnV (f - 1 + fndI s t f + 1)
end Go.Proofs.YtdhahiodnmmkeaaGreatDoor.Va
