/- The contract of the specification's Minus. -/
import Derived.Test.YtbkbikkieabcmaaDoorRectM
import Derived.Test.YtbkbikkieabcmaaDoorRectRefB
namespace Go.Proofs.YtbkbikkieabcmaaDoor.Re
open Go.RowKit AM
theorem two_blocks (w : World) (a1 a2 a3 a4 b1 b2 b3 b4 : Int) (t : TypeId) :
    let W := (w.alloc (.cells #[.int .i64 a1, .int .i64 a2, .int .i64 a3, .int .i64 a4] t)).alloc (.cells #[.int .i64 b1, .int .i64 b2, .int .i64 b3, .int .i64 b4] t)
    Four W w.heap.size a1 a2 a3 a4 ∧ Four W (w.heap.size + 1) b1 b2 b3 b4 ∧ Below w.heap.size w W := by
  dsimp only
  have l1 := below_alloc w (.cells #[.int .i64 a1, .int .i64 a2, .int .i64 a3, .int .i64 a4] t)
  have l2 := below_alloc (w.alloc (.cells #[.int .i64 a1, .int .i64 a2, .int .i64 a3, .int .i64 a4] t)) (.cells #[.int .i64 b1, .int .i64 b2, .int .i64 b3, .int .i64 b4] t)
  have f1 := (Four.start w a1 a2 a3 a4 t).later l2
  have f2 := Four.start (w.alloc (.cells #[.int .i64 a1, .int .i64 a2, .int .i64 a3, .int .i64 a4] t)) b1 b2 b3 b4 t
  rw [alloc_size] at f2
  exact ⟨f1, f2, Below.next l1 l2⟩
theorem drewN_below {B : Nat} {a w : World} (h : Below B a w) (n : Nat) : Below B a (w.drewN n) := ⟨h.os, h.tape, h.output, h.size, h.block⟩
theorem OwnR.drewN {B : Nat} {w : World} {v : Value} {l : List R4} (h : OwnR B w v l) (n : Nat) : OwnR B (w.drewN n) v l := h
end Go.Proofs.YtbkbikkieabcmaaDoor.Re
