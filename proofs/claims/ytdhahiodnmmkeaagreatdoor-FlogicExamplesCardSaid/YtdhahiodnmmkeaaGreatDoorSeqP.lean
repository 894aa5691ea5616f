/- The steps of a drawn region that holds appends and stores to memory of its own. -/
import Derived.Test.YtdhahiodnmmkeaaGreatDoorMgc
import Derived.Test.YtdhahiodnmmkeaaGreatDoorRow
namespace Go.Proofs.YtdhahiodnmmkeaaGreatDoor
open Go Go.RowKit
section
variable {α : Type} {e : TypeId} {c : α → List Value} {n Z : Nat} {M : List α}
theorem Below.grownBy {w w' : World} (h : Below w.heap.size w w') (r : Option Nat) : w.grownBy w' r := ⟨h.os, h.tape, h.output, h.size, fun k hk _ => h.block k hk⟩
end
section
variable {P : Program} {ops : Array Oper} {S : World → Prop} {Z : Nat} {L : List FB} {E U D : List (List Nat)} {A : (Nat → Value) → Act} {o : Oper} {i : Nat}
variable {α : Type} {e : TypeId} {c : α → List Value} {n : Nat} {M : List α}
/-- Three cells stored into a block. -/
theorem set3 (w : World) (g : Nat) (t : TypeId) (x y z x' y' z' : Value) (h : w.heap[g]? = some (.cells #[x, y, z] t)) :
    w.grownBy (((w.setCell ⟨g, 0, none⟩ x').setCell ⟨g, 1, none⟩ y').setCell ⟨g, 2, none⟩ z') (some g) ∧ (((w.setCell ⟨g, 0, none⟩ x').setCell ⟨g, 1, none⟩ y').setCell ⟨g, 2, none⟩ z').heap[g]? = some (.cells #[x', y', z'] t) := by
  refine ⟨⟨rfl, rfl, rfl, by simp [World.setCell], fun k hk hne => ?_⟩, ?_⟩
  · have : k ≠ g := fun e => hne (by rw [e])
    rw [Below.heap_setCell _ _ _ _ this, Below.heap_setCell _ _ _ _ this, Below.heap_setCell _ _ _ _ this]
  · obtain ⟨hl, he⟩ := Array.getElem?_eq_some_iff.1 h
    simp [World.setCell, Array.getElem?_modify, h]
end
end Go.Proofs.YtdhahiodnmmkeaaGreatDoor
