/- Contracts of the small functions of dec, and of the wide numbers of its specification: what each call returns. -/
import Derived.Test.YtdhahiodnmmkeaaGreatDoorProg
import Derived.Test.YtdhahiodnmmkeaaGreatDoorNumMath
import Derived.WalkKit
import Derived.WalkSpells
import Derived.WalkLawsBesides
import Derived.Lib.Hide
namespace Go.Proofs.YtdhahiodnmmkeaaGreatDoor
open Go.RowKit

set_option maxHeartbeats 400000 in
theorem inRange_any (a : Int) (x : Bool) (w : World) :
    Calls Tryz.prog 177 #[.int .i64 a, .bool x] w fun e w' => e = .returned (.tuple #[.int .i64 (irV a x), .bool (irB a x)]) ∧ w = w' := by
  cases x
  · rw [irV_f, irB_f]
    go_enter Tryz.func177, Tryz.ntmps177
    go_wp2
    go_ret2
    exact ⟨rfl, rfl⟩
  · cases h : (a == -9223372036854775808)
    · rw [irV_t h, irB_t h]
      go_enter Tryz.func177, Tryz.ntmps177
      go_wp2
      go_ret2
      exact ⟨rfl, rfl⟩
    · rw [irV_m h, irB_m h]
      go_enter Tryz.func177, Tryz.ntmps177
      go_wp2
      go_ret2
      exact ⟨rfl, rfl⟩

set_option maxHeartbeats 400000 in
theorem add_any (a b : Int) (ha : InI a) (hb : InI b) (w : World) :
    Calls Tryz.prog 114 #[.int .i64 a, .int .i64 b] w fun e w' => e = .returned (.tuple #[.int .i64 (resV (a + b)), .bool (resB (a + b))]) ∧ w = w' := by
  have HO := Lib.hid (add_over ha hb)
  have ha' := Lib.hid ha
  have hb' := Lib.hid hb
  clear ha hb
  go_enter Tryz.func114, Tryz.ntmps114
  go_wp2_with fail
  rw [HO.out]
  refine (inRange_any _ _ _).mono ?_
  rintro e w' ⟨rfl, rfl⟩
  go_wp2
  go_ret2
  have h1 := ha'.out
  have h2 := hb'.out
  exact ⟨retIB (add_fin h1 h2).1 (add_fin h1 h2).2, rfl⟩
/-! The specification's wide numbers -/
end Go.Proofs.YtdhahiodnmmkeaaGreatDoor
