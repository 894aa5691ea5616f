/- The statement DecRoots: the root is the greatest number whose square is not greater. -/
import Derived.Test.YticjclllhjehfaaDoorKnown
import Derived.Test.YticjclllhjehfaaDoorDecSqrt
namespace Go.Proofs.YticjclllhjehfaaDoor
open Go.RowKit

theorem above_key {r h l : Int} (e : r = h * 10000 + l) : r * r = (10000 * h * h + 2 * h * l + l * l / 10000) * 10000 + l * l % 10000 := by
  have e1 : r * r = 100000000 * (h * h) + 20000 * (h * l) + l * l := by
    rw [e, Int.add_mul, Int.mul_add, Int.mul_add, Int.mul_comm l (h * 10000), show h * 10000 * (h * 10000) = 100000000 * (h * h) by rw [Int.mul_comm h 10000, Int.mul_assoc, Int.mul_left_comm h 10000 h]; omega, show h * 10000 * l = 10000 * (h * l) by rw [Int.mul_comm h 10000, Int.mul_assoc]]
    omega
  have e2 : 10000 * h * h = 10000 * (h * h) := Int.mul_assoc _ _ _
  have e3 : 2 * h * l = 2 * (h * l) := Int.mul_assoc _ _ _
  rw [e1, e2, e3]; omega
set_option maxHeartbeats 800000 in
theorem above_any (r a : Int) (h0 : 0 ≤ r) (h1 : r ≤ 400000000001) (a0 : 0 ≤ a) (a1 : a ≤ 9223372036854775807) (w : World) :
    Calls Tryd.prog 33 #[.int .u64 r, .int .u64 a] w fun e w' => e = .returned (.bool (ltB (a * 10000) (r * r))) ∧ w = w' := by
  obtain ⟨h, EH⟩ : ∃ h, Hid (r / 10000 = h) := ⟨_, rfl⟩
  obtain ⟨l, EL⟩ : ∃ l, Hid (r % 10000 = l) := ⟨_, rfl⟩
  have bh : 0 ≤ h ∧ h ≤ 40000000 := by have := EH.out; omega
  have bl : 0 ≤ l ∧ l ≤ 9999 := by have := EL.out; omega
  have K := Lib.hid (above_key (r := r) (h := h) (l := l) (by have := EH.out; have := EL.out; omega))
  have p1 : 0 ≤ h * h ∧ h * h ≤ 40000000 * 40000000 := ⟨Int.mul_nonneg bh.1 bh.1, Int.mul_le_mul bh.2 bh.2 bh.1 (by omega)⟩
  have p2 : 0 ≤ h * l ∧ h * l ≤ 40000000 * 9999 := ⟨Int.mul_nonneg bh.1 bl.1, Int.mul_le_mul bh.2 bl.2 bl.1 (by omega)⟩
  have p3 : 0 ≤ l * l ∧ l * l ≤ 9999 * 9999 := ⟨Int.mul_nonneg bl.1 bl.1, Int.mul_le_mul bl.2 bl.2 bl.1 (by omega)⟩
  have q1 : 0 ≤ 10000 * h * h := by rw [Int.mul_assoc]; omega
  have q2 : 10000 * h * h ≤ 16000000000000000000 := by rw [Int.mul_assoc]; omega
  have q3 : 0 ≤ 2 * h * l := by rw [Int.mul_assoc]; omega
  have q4 : 2 * h * l ≤ 800000000000 := by rw [Int.mul_assoc]; omega
  obtain ⟨q5, q6⟩ := p3
  obtain ⟨g0, g1⟩ := bh
  obtain ⟨g2, g3⟩ := bl
  clear p1 p2
  go_enter Tryd.func33, Tryd.ntmps33
  go_upto_region 2 with (fail)
  rw [EH.out, EL.out]
  rcases Int.lt_trichotomy a (10000 * h * h + 2 * h * l + l * l / 10000) with hc | hc | hc
  · have hb := Lib.hid (ltB_t (n := a * 10000) (m := r * r) (by have := K.out; omega))
    go_wp2_with fail
    go_ret
    exact ⟨by rw [hb.out]; rfl, rfl⟩
  · have hx : ((10000 * h * h + 2 * h * l + l * l / 10000 : Int) == a) = true := by rw [beq_iff_eq]; omega
    have hy : ¬ a < 10000 * h * h + 2 * h * l + l * l / 10000 := by omega
    by_cases hd : 0 < l * l % 10000
    · have hb := Lib.hid (ltB_t (n := a * 10000) (m := r * r) (by have := K.out; omega))
      clear hc
      go_wp2_with fail
      go_ret
      exact ⟨by rw [hb.out]; rfl, rfl⟩
    · have hb := Lib.hid (ltB_f (n := a * 10000) (m := r * r) (by have := K.out; omega))
      have hd2 : decide (0 < l * l % 10000) = false := by simpa using hd
      clear hc
      go_wp2_with fail
      go_ret
      exact ⟨by rw [hb.out]; rfl, rfl⟩
  · have hx : ((10000 * h * h + 2 * h * l + l * l / 10000 : Int) == a) = false := by rw [beq_eq_false_iff_ne]; omega
    have hy : ¬ a < 10000 * h * h + 2 * h * l + l * l / 10000 := by omega
    have hb := Lib.hid (ltB_f (n := a * 10000) (m := r * r) (by have := K.out; omega))
    go_wp2_with fail
    go_ret
    exact ⟨by rw [hb.out]; rfl, rfl⟩
set_option maxRecDepth 100000 in
set_option maxHeartbeats 800000 in
theorem decRoots_any (a : Int) (ha : InI a) (w : World) :
    Calls Tryd.prog 10 #[.int .i64 a] w fun e w' => e = .returned (.bool true) ∧ Below w.heap.size w w' := by
  have HA := Lib.hid ha
  clear ha
  by_cases h0 : a < 0
  · go_enter Tryd.func10, Tryd.ntmps10
    go_wp2_with fail
    refine (sqrt_neg a h0 _).mono ?_
    rintro e w1 ⟨rfl, rfl⟩
    go_wp2_with fail
    refine (known_any _).mono ?_
    rintro e w1 ⟨rfl, hB⟩
    go_wp2_with fail
    go_ret
    exact ⟨rfl, hB⟩
  · go_enter Tryd.func10, Tryd.ntmps10
    go_wp2_with fail
    refine (sqrt_any a (by omega) HA.out.2 _).mono ?_
    rintro e w1 ⟨r, rfl, hr, rfl⟩
    have HR := Lib.hid hr
    have r0 : 0 ≤ r := hr.1
    have r1 : r ≤ 400000000000 := by
      rcases Int.lt_or_le 400000000000 r with h | h
      · have := sq_le (a := 400000000000) (b := r) (by omega) (by omega)
        have := hr.2.2.1
        have := HA.out.2
        omega
      · exact h
    clear hr
    have f1 := Lib.hid (ltB_f (n := a * 10000) (m := r * r) (by have := HR.out.2.2.1; omega))
    have a0 : 0 ≤ a := by omega
    have a1 : a ≤ 9223372036854775807 := HA.out.2
    have f2 := Lib.hid (ltB_t (n := a * 10000) (m := (r + 1) * (r + 1)) HR.out.2.2.2)
    go_wp2_with fail
    refine (above_any r a r0 (by omega) (by omega) HA.out.2 _).mono ?_
    rintro e w2 ⟨rfl, rfl⟩
    rw [f1.out]
    go_wp2_with fail
    refine (above_any (r + 1) a (by omega) (by omega) (by omega) HA.out.2 _).mono ?_
    rintro e w2 ⟨rfl, rfl⟩
    rw [f2.out]
    go_wp2_with fail
    refine (known_any _).mono ?_
    rintro e w3 ⟨rfl, hB⟩
    go_wp2_with fail
    go_ret
    exact ⟨rfl, hB⟩
end Go.Proofs.YticjclllhjehfaaDoor
