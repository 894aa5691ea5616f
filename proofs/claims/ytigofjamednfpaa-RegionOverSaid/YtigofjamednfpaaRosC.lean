/- Contract of group.Of. -/
import Derived.Test.YtigofjamednfpaaBitA
import Derived.RegionTactic
namespace Go.Proofs.Ytigofjamednfpaa
open Go.RowKit
/-- A slice of users. -/
def IsI (w : World) (a : Option Addr) (len : Nat) (L : List Nat) : Prop := L.length = len ∧ (0 < len → ∃ x, a = some x ∧ x.block < w.heap.size ∧ ∀ (i u : Nat), L[i]? = some u → w.cell? (x.add i) = some (.int .i64 (u : Int)))
def orL (L : List Nat) : W64 := L.foldl (fun s u => s ||| (1#64 <<< u)) 0#64
theorem orL_snoc (L : List Nat) (u : Nat) : orL (L ++ [u]) = orL L ||| (1#64 <<< u) := by unfold orL; rw [List.foldl_append]; rfl
theorem shl_one (y : Nat) : IntKind.u64.wrap ((2 : Int) ^ y) = ((1#64 <<< y).toNat : Int) := by
  rw [BitVec.toNat_shiftLeft]
  simp [IntKind.wrap, IntKind.bits, IntKind.signed, Nat.shiftLeft_eq]
end Go.Proofs.Ytigofjamednfpaa
