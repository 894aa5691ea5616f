/- The iterator of a set's users. -/
import Derived.RangeFuncNested
import Derived.RangeFuncBound
import Derived.RangeFuncCalls
import Derived.RangeFuncLeaves
import Derived.Shelf.Abstract
import Derived.Shelf.RegionOpen
import Derived.WalkKit
import Derived.OwnWalkIn
import Derived.TacticsInMore
import Derived.LoopNIn
import Derived.LoopIn
import Derived.Test.YtndijajaddkbhaaRosB
namespace Go.Proofs.Ytndijajaddkbhaa
open Go.RowKit Go.Shelf
attribute [local go_sem] Oper.semAt_some
def usr (x : W64) : List Nat := memL (fun i => x.getLsbD i) 64
theorem hasB_in (x : W64) (k : Nat) (h : k < 64) : hasB x (k : Int) = x.getLsbD k := by
  unfold hasB; rw [vld_t ⟨by omega, by omega⟩]; simp
theorem memL_pre (S : Nat → Bool) : ∀ d k, memL S k <+: memL S (k + d) := by
  intro d k
  induction d with
  | zero => exact List.prefix_refl _
  | succ d ih =>
    rw [← Nat.add_assoc, memL_succ]
    split
    · exact ih.trans (List.prefix_append _ _)
    · exact ih
/-- What a round that goes on keeps: what lies below n₀, and the set's box. -/
def KeepU (n₀ Bn : Nat) (A B : World) : Prop := Below n₀ A B ∧ B.cell? ⟨Bn, 0, none⟩ = A.cell? ⟨Bn, 0, none⟩
theorem keepU_t {n₀ Bn : Nat} {A B C : World} (h : KeepU n₀ Bn A B) (k : KeepU n₀ Bn B C) : KeepU n₀ Bn A C := ⟨h.1.trans k.1, k.2.trans h.2⟩
theorem keepU_b {n₀ Bn : Nat} {w : World} (hn : n₀ ≤ w.heap.size) (hB : Bn < w.heap.size) (W : World) (l : Nat) (o o' : Obj) (hl : w.heap.size ≤ l) (h : W.heap[l]? = some o) (h1 : o.isCells = false) (h2 : o.isWalk = false) : KeepU n₀ Bn W (W.putObj l o') :=
  ⟨belowK_b hn W l o o' hl h h1 h2, (belowK_b (n₀ := Bn + 1) (w := w) (by omega) W l o o' hl h h1 h2).cell (p := ⟨Bn, 0, none⟩) (Nat.lt_succ_self _)⟩
end Go.Proofs.Ytndijajaddkbhaa
