/- Members: a list collected in a range over a function. -/
import Derived.RangeFuncBox
import Derived.Maps.AppendAt
import Derived.Test.YtbkbikkieabcmaaDoorGrpA
namespace Go.Proofs.YtbkbikkieabcmaaDoor
open Go.RowKit Go.Shelf
theorem mem_any (s : Int) (w : World) : Calls Tryd.prog 38 #[.int .u64 s] w fun e w' => e = .returned (.func (.func 48) #[] #[.pointer (some ⟨w.heap.size, 0, none⟩)]) ∧ w' = w.alloc (.cells #[.int .u64 s] 42) := by
  go_enter Tryd.func38, Tryd.ntmps38
  go_wp2_with fail
  go_ret
  exact ⟨rfl, rfl⟩
attribute [local go_sem] Oper.semAt_some
theorem usr_stops (n : Nat) (Bn n₀ : Nat) (x : W64) (w : World) (hBn : Bn < w.heap.size) (hc : w.cell? ⟨Bn, 0, none⟩ = some (.int .u64 (x.toNat : Int))) :
    SeqStopsK Fence.wide n Tryd.prog 48 #[.pointer (some ⟨Bn, 0, none⟩)] (fun u : Nat => #[Value.int .i64 (u : Int)]) (KeepU n₀ Bn) (fun ys => ys = usr x) (fun pre => pre <+: usr x) (usr x).length w := fun l J Jx W hW _ _ hY h0 =>
  mem1_in n l Bn n₀ x J Jx hY W ((hW.cell (p := ⟨Bn, 0, none⟩) hBn).trans hc) h0
theorem usr_len (x : W64) : (usr x).length ≤ 64 := memL_length _ 64
end Go.Proofs.YtbkbikkieabcmaaDoor
