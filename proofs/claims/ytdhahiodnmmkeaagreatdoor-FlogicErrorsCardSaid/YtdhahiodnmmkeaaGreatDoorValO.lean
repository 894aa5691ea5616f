/- The order of values: mathematics. -/
import Derived.Test.YtdhahiodnmmkeaaGreatDoorValC
namespace Go.Proofs.YtdhahiodnmmkeaaGreatDoor.Va
open Go Go.RowKit GM
/-- Where no value is blank. -/
def c1 (k : Nat) (n : Int) (s : ByteArray) (k' : Nat) (n' : Int) (s' : ByteArray) : Int := if k = k' then (if k = 3 then cmpS s.data.toList s'.data.toList else sgI n n') else sgI (rkV k) (rkV k')
end Go.Proofs.YtdhahiodnmmkeaaGreatDoor.Va
