/- Contract of roster.In. -/
import Derived.Test.YtelanmknimapoaaGreatDoorRosA
import Derived.Test.YtelanmknimapoaaGreatDoorRosC
import Derived.Deep.MidRow
import Derived.Deep.Cut
namespace Go.Proofs.YtelanmknimapoaaGreatDoor
open Go.RowKit
def iV (u : Nat) : Value := .int .i64 (u : Int)
def OwnI (B : Nat) (w : World) (v : Value) (l : List Nat) : Prop := w.ownsRow B 3 1 v l.length (l.map iV)
theorem OwnI.nil (B : Nat) (w : World) : OwnI B w (.slice none 0 0) [] := World.ownsRow_nil _ _ _ _
theorem OwnI.alloc {B : Nat} {w : World} {v : Value} {l : List Nat} (h : OwnI B w v l) (o : Obj) : OwnI B (w.alloc o) v l := World.ownsRow.alloc h o
theorem OwnI.drew {B : Nat} {w : World} {v : Value} {l : List Nat} (h : OwnI B w v l) : OwnI B w.drew v l := h
end Go.Proofs.YtelanmknimapoaaGreatDoor
