/- The contract of the specification's Parse. -/
import Derived.Test.YtdhahiodnmmkeaaGreatDoorTxtB
import Derived.Test.YtdhahiodnmmkeaaGreatDoorTxtC
import Derived.Test.YtdhahiodnmmkeaaGreatDoorRefMul
namespace Go.Proofs.YtdhahiodnmmkeaaGreatDoor.Tx
open Go.RowKit
/-- A wide number in memory. -/
def W2 (w : World) (n : Nat) (h l : Int) : Prop := w.heap[n]? = some (.cells #[.int .u64 h, .int .u64 l] 109)
theorem W2.lt {w : World} {n : Nat} {h l : Int} (x : W2 w n h l) : n < w.heap.size := (Array.getElem?_eq_some_iff.1 x).1
theorem W2.cells {w : World} {n : Nat} {h l : Int} (x : W2 w n h l) : w.cell? ⟨n, 0, none⟩ = some (.int .u64 h) ∧ w.cell? ⟨n, 1, none⟩ = some (.int .u64 l) ∧ w.frozen? ⟨n, 0, none⟩ = false ∧ w.frozen? ⟨n, 1, none⟩ = false := by
  unfold W2 at x
  refine ⟨?_, ?_, ?_, ?_⟩ <;> simp [World.cell?, World.frozen?, x]
theorem W2.later {w w' : World} {n : Nat} {h l : Int} (x : W2 w n h l) (hB : Below w.heap.size w w') : W2 w' n h l := (hB.block n x.lt).trans x
theorem W2.set {w : World} {n : Nat} {h l : Int} (x : W2 w n h l) (h' l' : Int) : W2 ((w.setCell ⟨n, 0, none⟩ (.int .u64 h')).setCell ⟨n, 1, none⟩ (.int .u64 l')) n h' l' := by
  unfold W2 at *
  simp [World.setCell, Array.getElem?_modify, x]
theorem retE {a b a' b' : Int} (h : a' = a ∧ b' = b) : Ending.returned (.tuple #[.int .i64 a, .int .i64 b]) = .returned (.tuple #[.int .i64 a', .int .i64 b']) := by rw [h.1, h.2]
end Go.Proofs.YtdhahiodnmmkeaaGreatDoor.Tx
