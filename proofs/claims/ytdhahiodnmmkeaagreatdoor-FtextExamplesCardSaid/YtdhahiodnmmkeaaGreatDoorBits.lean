/- Contracts of math/bits (Mul64, Add64, Len64, LeadingZeros64) at this program. -/
import Derived.Test.YtdhahiodnmmkeaaGreatDoorDecA
import Derived.Laws.MathBits
import Derived.Laws.Externs
namespace Go.Proofs.YtdhahiodnmmkeaaGreatDoor
open Go.RowKit
set_option maxHeartbeats 400000 in
theorem zwn (a : Int) (ha : InI a) (w : World) :
 Calls Tryz.prog 108 #[.int .i64 a] w fun e w' => e = .returned (.int .u64 (zeh a)) ∧ w = w' := by
 unfold InI at ha
 obtain ⟨h1, h2⟩ := ha
 by_cases h : a < 0
 · go_enter Tryz.func108, Tryz.ntmps108
   go_wp2
   go_ret
   exact ⟨retI (by unfold zeh; rw [if_pos h]; simp only [wrap_u64]; omega), rfl⟩
 · go_enter Tryz.func108, Tryz.ntmps108
   go_wp2
   go_ret
   exact ⟨retI (by unfold zeh; rw [if_neg (by omega)]), rfl⟩
end Go.Proofs.YtdhahiodnmmkeaaGreatDoor
