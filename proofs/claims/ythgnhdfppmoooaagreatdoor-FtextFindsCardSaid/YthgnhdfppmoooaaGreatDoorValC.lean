/- The contract of val.Compare. -/
import Derived.Test.YthgnhdfppmoooaaGreatDoorValA
import Derived.Test.YthgnhdfppmoooaaGreatDoorGlyphH
import Derived.Test.YthgnhdfppmoooaaGreatDoorSeqT
import Derived.Test.YthgnhdfppmoooaaGreatDoorSeqP
import Derived.BigQuiet
import Derived.Deep.QuietTactic
namespace Go.Proofs.YthgnhdfppmoooaaGreatDoor.Va
open Go Go.RowKit GM
attribute [local simp] DepA isB rsAt
def sgI (a b : Int) : Int := if a < b then -1 else if b < a then 1 else 0
def bK (k k' : Nat) : Nat := if k = 0 then k' else k
def bN (k : Nat) (n : Int) : Int := if k = 0 then 0 else n
def bS (k : Nat) (s : ByteArray) : ByteArray := if k = 0 then ⟨#[]⟩ else s
def rkV (k : Nat) : Int := if k = 1 then 1 else if k = 3 then 2 else 3
/-- What Compare returns. -/
def cpR (k : Nat) (n : Int) (s : ByteArray) (k' : Nat) (n' : Int) (s' : ByteArray) : Int × Int :=
  if vldV k n s.data.toList = true ∧ vldV k' n' s'.data.toList = true ∧ k ≠ 4 ∧ k' ≠ 4 then
    (if bK k k' = bK k' k then (if bK k k' = 3 then cmpS (bS k s).data.toList (bS k' s').data.toList else sgI (bN k n) (bN k' n')) else sgI (rkV (bK k k')) (rkV (bK k' k)), 0)
  else (0, 2)
theorem retC {a b : Int} {x : Int × Int} (h : x = (a, b)) : Ending.returned (.tuple #[.int .i64 a, .int .i64 b]) = .returned (.tuple #[.int .i64 x.1, .int .i64 x.2]) := by rw [h]
theorem B3.set {w : World} {p k : Nat} {n : Int} {s : ByteArray} (h : B3 w p k n s) (k' : Nat) (n' : Int) (s' : ByteArray) :
    B3 (((w.setCell ⟨p, 0, none⟩ (.int .u8 (k' : Int))).setCell ⟨p, 1, none⟩ (.int .i64 n')).setCell ⟨p, 2, none⟩ (.string s')) p k' n' s' ∧
    w.grownBy (((w.setCell ⟨p, 0, none⟩ (.int .u8 (k' : Int))).setCell ⟨p, 1, none⟩ (.int .i64 n')).setCell ⟨p, 2, none⟩ (.string s')) (some p) := by
  have := set3 w p 24 _ _ _ (.int .u8 (k' : Int)) (.int .i64 n') (.string s') h
  exact ⟨this.2, this.1⟩
theorem B3.grown {w w' : World} {p q k : Nat} {n : Int} {s : ByteArray} (h : B3 w p k n s) (hg : w.grownBy w' (some q)) (hne : p ≠ q) : B3 w' p k n s :=
  (hg.block p h.lt (by intro e; injection e with e; exact hne e)).trans h
end Go.Proofs.YthgnhdfppmoooaaGreatDoor.Va
