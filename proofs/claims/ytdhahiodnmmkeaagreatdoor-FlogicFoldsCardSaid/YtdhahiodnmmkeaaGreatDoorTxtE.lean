/- The contract of dec.Format. -/
import Derived.Test.YtdhahiodnmmkeaaGreatDoorTxtC
import Derived.Test.YtdhahiodnmmkeaaGreatDoorShelfTxt
import Derived.Test.YtdhahiodnmmkeaaGreatDoorTab
import Derived.Lib.ItoaMem
import Derived.WalkKit
import Derived.WalkSpells
import Derived.WalkLawsBesides
import Derived.Lib.Hide
import Derived.BigCall
import Derived.BigGuard
import Derived.Outline
import Derived.Test.YtdhahiodnmmkeaaGreatDoorDecA
import Derived.Laws.MathBits
import Derived.Laws.Externs
namespace Go.Proofs.YtdhahiodnmmkeaaGreatDoor.Tx
open Go.RowKit
/-- Four bytes in memory. -/
def Q4 (w : World) (n : Nat) (a b c d : Int) : Prop := w.heap[n]? = some (.cells #[.int .u8 a, .int .u8 b, .int .u8 c, .int .u8 d] 168)
theorem Q4.lt {w : World} {n : Nat} {a b c d : Int} (h : Q4 w n a b c d) : n < w.heap.size := (Array.getElem?_eq_some_iff.1 h).1
theorem Q4.cells {w : World} {n : Nat} {a b c d : Int} (h : Q4 w n a b c d) : w.cell? ⟨n, 0, none⟩ = some (.int .u8 a) ∧ w.cell? ⟨n, 1, none⟩ = some (.int .u8 b) ∧ w.cell? ⟨n, 2, none⟩ = some (.int .u8 c) ∧ w.cell? ⟨n, 3, none⟩ = some (.int .u8 d) ∧
    w.frozen? ⟨n, 0, none⟩ = false ∧ w.frozen? ⟨n, 1, none⟩ = false ∧ w.frozen? ⟨n, 2, none⟩ = false ∧ w.frozen? ⟨n, 3, none⟩ = false := by
  unfold Q4 at h
  refine ⟨?_, ?_, ?_, ?_, ?_, ?_, ?_, ?_⟩ <;> simp [World.cell?, World.frozen?, h]
theorem Q4.set0 {w : World} {n : Nat} {a b c d : Int} (h : Q4 w n a b c d) (x : Int) : Q4 (w.setCell ⟨n, 0, none⟩ (.int .u8 x)) n x b c d := by
  unfold Q4 at *
  simp [World.setCell, Array.getElem?_modify, h]
theorem Q4.set1 {w : World} {n : Nat} {a b c d : Int} (h : Q4 w n a b c d) (x : Int) : Q4 (w.setCell ⟨n, 1, none⟩ (.int .u8 x)) n a x c d := by
  unfold Q4 at *
  simp [World.setCell, Array.getElem?_modify, h]
theorem Q4.set3 {w : World} {n : Nat} {a b c d : Int} (h : Q4 w n a b c d) (x : Int) : Q4 (w.setCell ⟨n, 3, none⟩ (.int .u8 x)) n a b c x := by
  unfold Q4 at *
  simp [World.setCell, Array.getElem?_modify, h]
def rs (r : Nat) : Nat → Nat
  | 0 => r
  | 1 => r / 10
  | 2 => r / 100
  | 3 => r / 1000
  | _ => r / 10000
end Go.Proofs.YtdhahiodnmmkeaaGreatDoor.Tx
