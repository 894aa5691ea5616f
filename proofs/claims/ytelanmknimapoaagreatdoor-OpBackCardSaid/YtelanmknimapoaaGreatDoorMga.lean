/- Merged: GrpA GrpB GrpC. -/
import Derived.RangeFuncNested
import Derived.RangeFuncBound
import Derived.RangeFuncCalls
import Derived.RangeFuncLeaves
import Derived.Shelf.Abstract
import Derived.Shelf.RegionOpen
import Derived.WalkKit
import Derived.OwnWalkIn
import Derived.TacticsInMore
import Derived.LoopNIn
import Derived.LoopIn
import Derived.Test.YtelanmknimapoaaGreatDoorRosB
import Derived.RangeFuncBox
import Derived.Maps.AppendAt
/- The iterator of a set's users. -/
namespace Go.Proofs.YtelanmknimapoaaGreatDoor
open Go.RowKit Go.Shelf
attribute [local go_sem] Oper.semAt_some
theorem zv9 (x : W64) (k : Nat) (h : k < 64) : hasB x (k : Int) = x.getLsbD k := by
 unfold hasB; rw [ybs ⟨by omega, by omega⟩]; simp
def zt2 (n₀ Bn : Nat) (A B : World) : Prop := Below n₀ A B ∧ B.cell? ⟨Bn, 0, none⟩ = A.cell? ⟨Bn, 0, none⟩
theorem ydk {n₀ Bn : Nat} {A B C : World} (h : zt2 n₀ Bn A B) (k : zt2 n₀ Bn B C) : zt2 n₀ Bn A C := ⟨h.1.trans k.1, k.2.trans h.2⟩
theorem ydl {n₀ Bn : Nat} {w : World} (hn : n₀ ≤ w.heap.size) (hB : Bn < w.heap.size) (W : World) (l : Nat) (o o' : Obj) (hl : w.heap.size ≤ l) (h : W.heap[l]? = some o) (h1 : o.isCells = false) (h2 : o.isWalk = false) : zt2 n₀ Bn W (W.putObj l o') :=
 ⟨belowK_b hn W l o o' hl h h1 h2, (belowK_b (n₀ := Bn + 1) (w := w) (by omega) W l o o' hl h h1 h2).cell (p := ⟨Bn, 0, none⟩) (Nat.lt_succ_self _)⟩
end Go.Proofs.YtelanmknimapoaaGreatDoor
/- Members: a list collected in a range over a function. -/
namespace Go.Proofs.YtelanmknimapoaaGreatDoor
open Go.RowKit Go.Shelf
theorem yde (s : Int) (w : World) : Calls Tryz.prog 44 #[.int .u64 s] w fun e w' => e = .returned (.func (.func 74) #[] #[.pointer (some ⟨w.heap.size, 0, none⟩)]) ∧ w' = w.alloc (.cells #[.int .u64 s] 24) := by
 go_enter Tryz.func44, Tryz.ntmps44
 go_wp2_with fail
 go_ret
 exact ⟨rfl, rfl⟩
attribute [local go_sem] Oper.semAt_some
end Go.Proofs.YtelanmknimapoaaGreatDoor
/- Members: a list collected in a range over a function. -/
namespace Go.Proofs.YtelanmknimapoaaGreatDoor
open Go.RowKit Go.Shelf
attribute [local go_sem] Oper.semAt_some
end Go.Proofs.YtelanmknimapoaaGreatDoor
