/- Contracts of the specification's functions of ranges. -/
import Derived.Test.YtbkbikkieabcmaaDoorRectC
import Derived.Test.YtbkbikkieabcmaaDoorAddrRefA
import Derived.Deep.RegionHeld3
namespace Go.Proofs.YtbkbikkieabcmaaDoor.Re
open Go.RowKit AM
/-- What two valid ranges have in common is valid unless it is empty. -/
theorem mtB_eq (a1 a2 a3 a4 b1 b2 b3 b4 : Int) : mtB a1 a2 a3 a4 b1 b2 b3 b4 = (ckB a1 a2 a3 a4 && (ckB b1 b2 b3 b4 && ckB (max a1 b1) (max a2 b2) (min a3 b3) (min a4 b4))) := by
  unfold mtB
  rw [Bool.eq_iff_iff, Bool.and_eq_true, Bool.and_eq_true, Bool.and_eq_true, Bool.and_eq_true, ckB_iff, ckB_iff, ckB_iff, Bool.not_eq_true']
  unfold emB
  rw [decide_eq_false_iff_not]
  omega
theorem insB_eq (a1 a2 a3 a4 b1 b2 b3 b4 : Int) : insB a1 a2 a3 a4 b1 b2 b3 b4 = (ckB a1 a2 a3 a4 && (ckB b1 b2 b3 b4 && (rhB b1 b2 b3 b4 a1 a2 && rhB b1 b2 b3 b4 a3 a4))) := by
  unfold insB rhB
  rw [mtB_eq, Bool.eq_iff_iff]
  simp only [Bool.and_eq_true, ckB_iff, decide_eq_true_eq, beq_iff_eq]
  omega
end Go.Proofs.YtbkbikkieabcmaaDoor.Re
