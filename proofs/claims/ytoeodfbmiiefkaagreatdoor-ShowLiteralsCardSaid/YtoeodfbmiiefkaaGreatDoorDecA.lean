/- Contracts of the small functions of dec, and of the wide numbers of its specification: what each call returns. -/
import Derived.Test.YtoeodfbmiiefkaaGreatDoorProg
import Derived.Test.YtoeodfbmiiefkaaGreatDoorNumMath
import Derived.WalkKit
import Derived.WalkSpells
import Derived.WalkLawsBesides
import Derived.Lib.Hide
namespace Go.Proofs.YtoeodfbmiiefkaaGreatDoor
open Go.RowKit

set_option maxHeartbeats 400000 in
theorem inRange_any (a : Int) (x : Bool) (w : World) :
    Calls Tryz.prog 153 #[.int .i64 a, .bool x] w fun e w' => e = .returned (.tuple #[.int .i64 (irV a x), .bool (irB a x)]) ∧ w = w' := by
  cases x
  · rw [irV_f, irB_f]
    go_enter Tryz.func153, Tryz.ntmps153
    go_wp2
    go_ret2
    exact ⟨rfl, rfl⟩
  · cases h : (a == -9223372036854775808)
    · rw [irV_t h, irB_t h]
      go_enter Tryz.func153, Tryz.ntmps153
      go_wp2
      go_ret2
      exact ⟨rfl, rfl⟩
    · rw [irV_m h, irB_m h]
      go_enter Tryz.func153, Tryz.ntmps153
      go_wp2
      go_ret2
      exact ⟨rfl, rfl⟩

set_option maxHeartbeats 400000 in
theorem add_any (a b : Int) (ha : InI a) (hb : InI b) (w : World) :
    Calls Tryz.prog 139 #[.int .i64 a, .int .i64 b] w fun e w' => e = .returned (.tuple #[.int .i64 (resV (a + b)), .bool (resB (a + b))]) ∧ w = w' := by
  have HO := Lib.hid (add_over ha hb)
  have ha' := Lib.hid ha
  have hb' := Lib.hid hb
  clear ha hb
  go_enter Tryz.func139, Tryz.ntmps139
  go_wp2_with fail
  rw [HO.out]
  refine (inRange_any _ _ _).mono ?_
  rintro e w' ⟨rfl, rfl⟩
  go_wp2
  go_ret2
  have h1 := ha'.out
  have h2 := hb'.out
  exact ⟨retIB (add_fin h1 h2).1 (add_fin h1 h2).2, rfl⟩
/-! The specification's wide numbers -/
set_option maxHeartbeats 400000 in
theorem rsize_any (a : Int) (ha : InI a) (w : World) :
    Calls Tryz.prog 25 #[.int .i64 a] w fun e w' => e = .returned (.int .u64 (sizeOf' a)) ∧ w = w' := by
  have ha' := Lib.hid ha
  unfold InI at ha
  obtain ⟨h1, h2⟩ := ha
  by_cases h : a < 0
  · go_enter Tryz.func25, Tryz.ntmps25
    go_wp2
    go_ret
    exact ⟨retI (by unfold sizeOf'; rw [if_pos h]; omega), rfl⟩
  · go_enter Tryz.func25, Tryz.ntmps25
    go_wp2
    go_ret
    exact ⟨retI (by unfold sizeOf'; rw [if_neg (by omega)]), rfl⟩
end Go.Proofs.YtoeodfbmiiefkaaGreatDoor
