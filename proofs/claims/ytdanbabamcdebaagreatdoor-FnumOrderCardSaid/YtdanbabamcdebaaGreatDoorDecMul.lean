/- Contracts of dec.Mul and dec.Quo. -/
import Derived.Test.YtdanbabamcdebaaGreatDoorDiv
namespace Go.Proofs.YtdanbabamcdebaaGreatDoor
open Go.RowKit

/-- The product of two numbers, rounded, and the quotient. -/
def mulZ (a b : Int) : Int := sg ((sizeOf' a * sizeOf' b + 5000) / 10000) (decide (a < 0) != decide (b < 0))
def quoZ (a b : Int) : Int := sg ((sizeOf' a * 10000 + sizeOf' b / 2) / sizeOf' b) (decide (a < 0) != decide (b < 0))
theorem isW_split {n : Int} (h0 : 0 ≤ n) (h1 : n < 340282366920938463463374607431768211456) : IsW (hi64 n) (lo64 n) n := by
  unfold IsW InU hi64 lo64; omega
theorem size_mul_bd {a b : Int} (ha : InI a) (hb : InI b) : 0 ≤ sizeOf' a * sizeOf' b ∧ sizeOf' a * sizeOf' b ≤ 85070591730234615865843651857942052864 := by
  have h1 := size_bd' ha
  have h2 := size_bd' hb
  constructor
  · exact Int.mul_nonneg h1.1 h2.1
  · calc sizeOf' a * sizeOf' b ≤ 9223372036854775808 * sizeOf' b := Int.mul_le_mul_of_nonneg_right h1.2 h2.1
      _ ≤ 9223372036854775808 * 9223372036854775808 := Int.mul_le_mul_of_nonneg_left h2.2 (by omega)
set_option maxHeartbeats 400000 in
theorem mul_any (a b : Int) (ha : InI a) (hb : InI b) (w : World) :
    Calls Tryz.prog 73 #[.int .i64 a, .int .i64 b] w fun e w' => e = .returned (.tuple #[.int .i64 (resV (mulZ a b)), .bool (resB (mulZ a b))]) ∧ ∃ k, w' = w.drewN k := by
  have HA := Lib.hid ha
  have HB := Lib.hid hb
  have sa := Lib.hid (size_bd' ha)
  have sb := Lib.hid (size_bd' hb)
  have sm := Lib.hid (size_mul_bd ha hb)
  clear ha hb
  go_enter Tryz.func73, Tryz.ntmps73
  go_wp2_with fail
  refine (dsize_any a HA.out _).mono ?_
  rintro e w' ⟨rfl, rfl⟩
  go_wp2_with fail
  refine (dsize_any b HB.out _).mono ?_
  rintro e w' ⟨rfl, rfl⟩
  go_wp2_with fail
  refine (mul64_any _ _ sa.out.1 (by have := sa.out; omega) sb.out.1 (by have := sb.out; omega) _).mono ?_
  rintro e w' ⟨rfl, rfl⟩
  go_wp2_with fail
  refine (ratio_any _ _ 10000 (sizeOf' a * sizeOf' b) _ (isW_split sm.out.1 (by have := sm.out; omega)) (by omega) (by omega) (by have := sm.out; omega) _).mono ?_
  rintro e w' ⟨rfl, k, rfl⟩
  go_wp2_with fail
  go_ret2
  exact ⟨rfl, k, rfl⟩
set_option maxHeartbeats 400000 in
theorem quo_any (a b : Int) (ha : InI a) (hb : InI b) (hb0 : ¬ b = 0) (w : World) :
    Calls Tryz.prog 41 #[.int .i64 a, .int .i64 b] w fun e w' => e = .returned (.tuple #[.int .i64 (resV (quoZ a b)), .bool (resB (quoZ a b))]) ∧ ∃ k, w' = w.drewN k := by
  have HA := Lib.hid ha
  have HB := Lib.hid hb
  have sa := Lib.hid (size_bd' ha)
  have sb := Lib.hid (size_bd' hb)
  have sb1 : Hid (1 ≤ sizeOf' b) := by unfold Hid sizeOf'; split <;> omega
  clear ha hb
  go_enter Tryz.func41, Tryz.ntmps41
  go_wp2_with fail
  refine (dsize_any a HA.out _).mono ?_
  rintro e w' ⟨rfl, rfl⟩
  go_wp2_with fail
  refine (mul64_any _ _ sa.out.1 (by have := sa.out; omega) (by omega) (by omega) _).mono ?_
  rintro e w' ⟨rfl, rfl⟩
  go_wp2_with fail
  refine (dsize_any b HB.out _).mono ?_
  rintro e w' ⟨rfl, rfl⟩
  go_wp2_with fail
  refine (ratio_any _ _ (sizeOf' b) (sizeOf' a * 10000) _ (isW_split (by have := sa.out; omega) (by have := sa.out; omega)) sb1.out (by have := sb.out; omega) (by have := sa.out; have := sb.out; omega) _).mono ?_
  rintro e w' ⟨rfl, k, rfl⟩
  go_wp2_with fail
  go_ret2
  exact ⟨rfl, k, rfl⟩
set_option maxHeartbeats 400000 in
theorem quo_zero (a : Int) (w : World) :
    Calls Tryz.prog 41 #[.int .i64 a, .int .i64 0] w fun e w' => e = .returned (.tuple #[.int .i64 0, .bool false]) ∧ w = w' := by
  go_enter Tryz.func41, Tryz.ntmps41
  go_wp2_with fail
  go_ret2
  exact ⟨rfl, rfl⟩
end Go.Proofs.YtdanbabamcdebaaGreatDoor
