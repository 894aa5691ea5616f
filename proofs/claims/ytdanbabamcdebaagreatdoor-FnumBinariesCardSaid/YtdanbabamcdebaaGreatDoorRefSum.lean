/- Contracts of the specification's Add and Neg, and the statement DecSums. -/
import Derived.Test.YtdanbabamcdebaaGreatDoorRefTot
import Derived.Test.YtdanbabamcdebaaGreatDoorRefSub
namespace Go.Proofs.YtdanbabamcdebaaGreatDoor
open Go.RowKit

set_option maxHeartbeats 400000 in
theorem radd_any (a b : Int) (ha : InI a) (hb : InI b) (w : World) :
    Calls Tryz.prog 47 #[.int .i64 a, .int .i64 b] w fun e w' => e = .returned (.tuple #[.int .i64 (resV (a + b)), .bool (resB (a + b))]) ∧ Below w.heap.size w w' := by
  have HA := Lib.hid ha
  have HB := Lib.hid hb
  clear ha hb
  go_enter Tryz.func47, Tryz.ntmps47
  go_wp2_with fail
  refine (rsum_any w.heap.size 0 2 [a, b] (by simp [HA.out, HB.out]) (by simp) _ ⟨by simp, ?_⟩).mono ?_
  · intro i hi
    match i, hi with
    | 0, _ => simp
    | 1, _ => simp
  rintro e w1 ⟨rfl, hB1⟩
  go_wp2_with fail
  go_ret2
  exact ⟨rfl, Below.next ((Below.refl _ _).alloc (by simp) _) hB1⟩

set_option maxHeartbeats 400000 in
theorem rneg_any (a : Int) (ha : InI a) (w : World) :
    Calls Tryz.prog 40 #[.int .i64 a] w fun e w' => e = .returned (.tuple #[.int .i64 (resV (-a)), .bool (resB (-a))]) ∧ Below w.heap.size w w' := by
  have HA := Lib.hid ha
  clear ha
  by_cases h : 0 < a
  · go_enter Tryz.func40, Tryz.ntmps40
    go_wp2_with fail
    refine (rsize_any _ HA.out _).mono ?_
    rintro e w' ⟨rfl, rfl⟩
    go_wp2_with fail
    refine (signed_any _ _ _ (size_lo HA.out) true _).mono ?_
    rintro e w2 ⟨rfl, hB2⟩
    go_wp2_with fail
    go_ret2
    have e1 : sg (sizeOf' a) true = -a := by rw [size_p (by omega)]; simp [sg]
    exact ⟨by rw [e1]; rfl, hB2⟩
  · have hd : decide (0 < a) = false := by simpa using h
    go_enter Tryz.func40, Tryz.ntmps40
    go_wp2_with fail
    refine (rsize_any _ HA.out _).mono ?_
    rintro e w' ⟨rfl, rfl⟩
    go_wp2_with fail
    refine (signed_any _ _ _ (size_lo HA.out) false _).mono ?_
    rintro e w2 ⟨rfl, hB2⟩
    go_wp2_with fail
    go_ret2
    have e1 : sg (sizeOf' a) false = -a := by
      by_cases h0 : a = 0
      · rw [size_p (by omega)]; simp [sg]; omega
      · rw [size_n (by omega)]; simp [sg]
    exact ⟨by rw [e1]; rfl, hB2⟩

end Go.Proofs.YtdanbabamcdebaaGreatDoor
