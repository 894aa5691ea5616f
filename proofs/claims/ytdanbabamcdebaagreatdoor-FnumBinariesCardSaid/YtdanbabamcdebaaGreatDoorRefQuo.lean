/- Contracts of the specification's Mul and Quo, and the statement DecProducts. -/
import Derived.Test.YtdanbabamcdebaaGreatDoorRefNear
import Derived.Test.YtdanbabamcdebaaGreatDoorP1
namespace Go.Proofs.YtdanbabamcdebaaGreatDoor
open Go.RowKit

set_option maxHeartbeats 400000 in
theorem rmul_any (a b : Int) (ha : InI a) (hb : InI b) (w : World) :
    Calls Tryz.prog 49 #[.int .i64 a, .int .i64 b] w fun e w' => e = .returned (.tuple #[.int .i64 (resV (mulZ a b)), .bool (resB (mulZ a b))]) ∧ Below w.heap.size w w' := by
  have HA := Lib.hid ha
  have HB := Lib.hid hb
  have sa := Lib.hid (size_bd' ha)
  have sb := Lib.hid (size_bd' hb)
  have sm := Lib.hid (size_mul_bd ha hb)
  clear ha hb
  go_enter Tryz.func49, Tryz.ntmps49
  go_wp2_with fail
  refine (rsize_any a HA.out _).mono ?_
  rintro e w' ⟨rfl, rfl⟩
  go_wp2_with fail
  refine (rsize_any b HB.out _).mono ?_
  rintro e w' ⟨rfl, rfl⟩
  go_wp2_with fail
  refine (times_any _ _ (by have := sa.out; unfold InU; omega) (by have := sb.out; unfold InU; omega) _).mono ?_
  rintro e w1 ⟨h, l, rfl, hI, hB1⟩
  go_wp2_with fail
  refine (nearest_any _ _ 10000 _ hI (by omega) (by omega) (by have := sm.out; omega) _).mono ?_
  rintro e w2 ⟨h2, l2, rfl, hI2, hB2⟩
  go_wp2_with fail
  refine (signed_any _ _ _ hI2 _ _).mono ?_
  rintro e w3 ⟨rfl, hB3⟩
  go_wp2_with fail
  go_ret2
  exact ⟨rfl, Below.next (Below.next hB1 hB2) hB3⟩
set_option maxHeartbeats 400000 in
theorem rquo_any (a b : Int) (ha : InI a) (hb : InI b) (hb0 : ¬ b = 0) (w : World) :
    Calls Tryz.prog 42 #[.int .i64 a, .int .i64 b] w fun e w' => e = .returned (.tuple #[.int .i64 (resV (quoZ a b)), .bool (resB (quoZ a b))]) ∧ Below w.heap.size w w' := by
  have HA := Lib.hid ha
  have HB := Lib.hid hb
  have sa := Lib.hid (size_bd' ha)
  have sb := Lib.hid (size_bd' hb)
  have sb1 : Hid (1 ≤ sizeOf' b) := by unfold Hid sizeOf'; split <;> omega
  clear ha hb
  go_enter Tryz.func42, Tryz.ntmps42
  go_wp2_with fail
  refine (rsize_any a HA.out _).mono ?_
  rintro e w' ⟨rfl, rfl⟩
  go_wp2_with fail
  refine (times_any _ _ (by have := sa.out; unfold InU; omega) (by unfold InU; omega) _).mono ?_
  rintro e w1 ⟨h, l, rfl, hI, hB1⟩
  go_wp2_with fail
  refine (rsize_any b HB.out _).mono ?_
  rintro e w' ⟨rfl, rfl⟩
  go_wp2_with fail
  refine (nearest_any _ _ (sizeOf' b) _ hI sb1.out (by have := sb.out; omega) (by have := sa.out; have := sb.out; omega) _).mono ?_
  rintro e w2 ⟨h2, l2, rfl, hI2, hB2⟩
  go_wp2_with fail
  refine (signed_any _ _ _ hI2 _ _).mono ?_
  rintro e w3 ⟨rfl, hB3⟩
  go_wp2_with fail
  go_ret2
  exact ⟨rfl, Below.next (Below.next hB1 hB2) hB3⟩
set_option maxHeartbeats 400000 in
theorem rquo_zero (a : Int) (w : World) :
    Calls Tryz.prog 42 #[.int .i64 a, .int .i64 0] w fun e w' => e = .returned (.tuple #[.int .i64 0, .bool false]) ∧ w = w' := by
  go_enter Tryz.func42, Tryz.ntmps42
  go_wp2_with fail
  go_ret2
  exact ⟨rfl, rfl⟩
end Go.Proofs.YtdanbabamcdebaaGreatDoor
