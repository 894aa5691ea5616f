/- Contracts of the specification's sets (User, Bit, Of, All, Has, Members, Meet), and of the program's Of and All for any numbers. -/
import Derived.Test.YtelanmknimapoaaGreatDoorMga
import Derived.Lib.MinMax
import Derived.RegionTactic
namespace Go.Proofs.YtelanmknimapoaaGreatDoor
open Go.RowKit
def bitW (k : Nat) : W64 := 1#64 <<< k
def IsZ (w : World) (a : Option Addr) (len : Nat) (L : List Int) : Prop := L.length = len ∧ (0 < len → ∃ x, a = some x ∧ x.block < w.heap.size ∧ ∀ (i : Nat) (u : Int), L[i]? = some u → w.cell? (x.add i) = some (.int .i64 u))
theorem IsZ.later {w w' : World} {a : Option Addr} {n : Nat} {L : List Int} (h : IsZ w a n L) (hB : Below w.heap.size w w') : IsZ w' a n L := by
 refine ⟨h.1, fun h0 => ?_⟩
 obtain ⟨x, rfl, hx, hc⟩ := h.2 h0
 have hz := hB.size
 refine ⟨x, rfl, by omega, fun i u hu => ?_⟩
 rw [hB.cell (p := x.add i) (by unfold Addr.add; split <;> exact hx)]
 exact hc i u hu
end Go.Proofs.YtelanmknimapoaaGreatDoor
