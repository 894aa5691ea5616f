/- The contract of val.Compare. -/
import Derived.Test.YtdhahiodnmmkeaaGreatDoorValA
import Derived.Test.YtdhahiodnmmkeaaGreatDoorMgc
import Derived.Test.YtdhahiodnmmkeaaGreatDoorGlyphMath
import GoSem.Op.String
import Derived.Test.YtdhahiodnmmkeaaGreatDoorMgd
import Derived.Test.YtdhahiodnmmkeaaGreatDoorSeqP
import Derived.BigQuiet
import Derived.Deep.QuietTactic
namespace Go.Proofs.YtdhahiodnmmkeaaGreatDoor.Va
open Go Go.RowKit GM
attribute [local simp] DepA isB rsAt
theorem B3.set {w : World} {p k : Nat} {n : Int} {s : ByteArray} (h : B3 w p k n s) (k' : Nat) (n' : Int) (s' : ByteArray) :
 B3 (((w.setCell ⟨p, 0, none⟩ (.int .u8 (k' : Int))).setCell ⟨p, 1, none⟩ (.int .i64 n')).setCell ⟨p, 2, none⟩ (.string s')) p k' n' s' ∧
 w.grownBy (((w.setCell ⟨p, 0, none⟩ (.int .u8 (k' : Int))).setCell ⟨p, 1, none⟩ (.int .i64 n')).setCell ⟨p, 2, none⟩ (.string s')) (some p) := by
 have := set3 w p 26 _ _ _ (.int .u8 (k' : Int)) (.int .i64 n') (.string s') h
 exact ⟨this.2, this.1⟩
theorem B3.grown {w w' : World} {p q k : Nat} {n : Int} {s : ByteArray} (h : B3 w p k n s) (hg : w.grownBy w' (some q)) (hne : p ≠ q) : B3 w' p k n s :=
 (hg.block p h.lt (by intro e; injection e with e; exact hne e)).trans h
end Go.Proofs.YtdhahiodnmmkeaaGreatDoor.Va
