/- The reference's conversion of arguments. -/
import Derived.Test.YtdhahiodnmmkeaaGreatDoorFuB
import Derived.Test.YtdhahiodnmmkeaaGreatDoorMgf
import Derived.Test.YtdhahiodnmmkeaaGreatDoorValXn
import Derived.Test.YtdhahiodnmmkeaaGreatDoorMge
import Derived.Test.YtdhahiodnmmkeaaGreatDoorValR
import Derived.Test.YtdhahiodnmmkeaaGreatDoorTxtR
import Derived.Test.YtdhahiodnmmkeaaGreatDoorTxtE
namespace Go.Proofs.YtdhahiodnmmkeaaGreatDoor.Va
open Go Go.RowKit GM
set_option linter.unusedVariables false
set_option linter.unusedSimpArgs false
abbrev OwnN (B : Nat) (w : World) (v : Value) (L : List Int) : Prop := OwnOf 3 cellsW 1 B w v L
/-- What the reference's convert has gathered so far. -/
structure Cw (w wr : World) (u v : Value) (T : List ByteArray) (W : List Int) : Prop where
  f : B3 wr w.heap.size 0 0 ⟨#[]⟩
  t : OwnT (w.heap.size + 1) wr u T
  n : OwnN (w.heap.size + 1) wr v W
  b : Below w.heap.size w wr
theorem Cw.later {w wr w1 : World} {u v : Value} {T : List ByteArray} {W : List Int} (h : Cw w wr u v T W) (hB : Below wr.heap.size wr w1) : Cw w w1 u v T W :=
  ⟨h.f.later hB, OwnOf.later h.t hB, OwnOf.later h.n hB, vnext h.b hB⟩
/-- A block that is none of the lists'. -/
theorem Cw.other {w wr w1 : World} {u v : Value} {T : List ByteArray} {W : List Int} {q : Nat} (h : Cw w wr u v T W) (hg : wr.grownBy w1 (some q)) (hq : w.heap.size < q) (hu : ∀ g, u.ownBlock = some g → g ≠ q) (hv : ∀ g, v.ownBlock = some g → g ≠ q) : Cw w w1 u v T W :=
  ⟨h.f.grownB hg (fun e => by injection e with e; omega), World.ownsRow.kept h.t hg (.inr fun e => hu q e rfl), World.ownsRow.kept h.n hg (.inr fun e => hv q e rfl), h.b.grown hg h.b.size (fun p hp => by injection hp with hp; omega)⟩
theorem Cw.lt {w wr : World} {u v : Value} {T : List ByteArray} {W : List Int} (h : Cw w wr u v T W) : (∀ g, u.ownBlock = some g → g ≠ wr.heap.size) ∧ (∀ g, v.ownBlock = some g → g ≠ wr.heap.size) :=
  ⟨fun g e => by have := (World.ownsRow.lt h.t g e).2; omega, fun g e => by have := (World.ownsRow.lt h.n g e).2; omega⟩
end Go.Proofs.YtdhahiodnmmkeaaGreatDoor.Va
