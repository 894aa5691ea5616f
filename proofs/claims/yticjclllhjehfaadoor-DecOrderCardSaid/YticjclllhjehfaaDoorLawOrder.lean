/- The statement DecOrder: orders of arguments, and the inverse operations. -/
import Derived.Test.YticjclllhjehfaaDoorLawPowers
namespace Go.Proofs.YticjclllhjehfaaDoor
open Go.RowKit

theorem mulZ_comm (a b : Int) : mulZ a b = mulZ b a := by
  unfold mulZ; rw [Int.mul_comm, show (decide (a < 0) != decide (b < 0)) = (decide (b < 0) != decide (a < 0)) by cases decide (a < 0) <;> cases decide (b < 0) <;> rfl]
theorem le_of_mul {x y B : Int} (hB : 1 ≤ B) (h : x * B < (y + 1) * B) : x ≤ y := by
  rcases Int.lt_or_le y x with h1 | h1
  · have := Int.mul_le_mul_of_nonneg_right (show y + 1 ≤ x by omega) (show 0 ≤ B by omega)
    omega
  · exact h1
/-- Dividing a product by a factor: how far the result is from the other factor. -/
theorem back_far {A B M Z far : Int} (_hA : 0 ≤ A) (hB : 1 ≤ B) (hM : M = (A * B + 5000) / 10000) (hZ : Z = (M * 10000 + B / 2) / B) (hf : 5000 + (B + 1) / 2 < (far + 1) * B) : Z - A ≤ far ∧ A - Z ≤ far := by
  have e1 := Int.ediv_mul_add_emod (M * 10000 + B / 2) B
  have a1 := Int.emod_nonneg (M * 10000 + B / 2) (show B ≠ 0 by omega)
  have b1 := Int.emod_lt_of_pos (M * 10000 + B / 2) (show 0 < B by omega)
  rw [← hZ] at e1
  have m1 : A * B - 5000 < M * 10000 + 1 ∧ M * 10000 ≤ A * B + 5000 := by omega
  have c1 : (Z - A) * B = Z * B - A * B := Int.sub_mul _ _ _
  have c2 : (A - Z) * B = A * B - Z * B := Int.sub_mul _ _ _
  constructor
  · apply le_of_mul hB; omega
  · apply le_of_mul hB; omega
theorem far_big {B : Int} (h : 10000 ≤ B) : 5000 + (B + 1) / 2 < (1 + 1) * B := by omega
theorem far_small {B : Int} (h1 : 1 ≤ B) (h2 : B < 10000) : 5000 + (B + 1) / 2 < (10000 / B + 2 + 1) * B := by
  have e := Int.ediv_mul_add_emod 10000 B
  have b := Int.emod_lt_of_pos 10000 (show 0 < B by omega)
  rw [Int.add_mul, Int.add_mul]
  omega
theorem sg_sub (x y : Int) (s : Bool) : sg x s - sg y s = x - y ∨ sg x s - sg y s = y - x := by
  cases s <;> simp [sg] <;> omega
theorem quo_back {a b far : Int} (hb : ¬ b = 0) (hf : 5000 + (sizeOf' b + 1) / 2 < (far + 1) * sizeOf' b) : quoZ (mulZ a b) b - a ≤ far ∧ a - quoZ (mulZ a b) b ≤ far := by
  have hA : 0 ≤ sizeOf' a := by unfold sizeOf'; split <;> omega
  have hB : 1 ≤ sizeOf' b := by unfold sizeOf'; split <;> omega
  obtain ⟨M, hM⟩ : ∃ M, M = (sizeOf' a * sizeOf' b + 5000) / 10000 := ⟨_, rfl⟩
  have hM0 : 0 ≤ M := by
    rw [hM]; exact Int.ediv_nonneg (by have := Int.mul_nonneg hA (show 0 ≤ sizeOf' b by omega); omega) (by omega)
  have hp : mulZ a b = sg M (decide (a < 0) != decide (b < 0)) := by unfold mulZ; rw [← hM]
  have hps : sizeOf' (mulZ a b) = M := by
    rw [hp]; unfold sizeOf' sg; cases (decide (a < 0) != decide (b < 0)) <;> simp <;> omega
  obtain ⟨Z, hZ⟩ : ∃ Z, Z = (M * 10000 + sizeOf' b / 2) / sizeOf' b := ⟨_, rfl⟩
  have hq : quoZ (mulZ a b) b = sg Z (decide (mulZ a b < 0) != decide (b < 0)) := by unfold quoZ; rw [hps, ← hZ]
  obtain ⟨f1, f2⟩ := back_far hA hB hM hZ hf
  have ha : sg (sizeOf' a) (decide (a < 0)) = a := by
    by_cases h : a < 0
    · rw [size_n h]; simp [sg, h]
    · rw [size_p h]; simp [sg, h]
  by_cases h0 : M = 0
  · have hz0 : Z = 0 := by
      rw [hZ, h0]; exact Int.ediv_eq_zero_of_lt (by omega) (by omega)
    have e : quoZ (mulZ a b) b = sg Z (decide (a < 0)) := by rw [hq, hz0]; unfold sg; simp
    rw [e]
    rcases sg_sub Z (sizeOf' a) (decide (a < 0)) with h | h <;> rw [ha] at h <;> omega
  · have e : (decide (mulZ a b < 0) != decide (b < 0)) = decide (a < 0) := by
      have h1 : decide (mulZ a b < 0) = (decide (a < 0) != decide (b < 0)) := by
        rw [hp]; unfold sg
        cases (decide (a < 0) != decide (b < 0)) <;> simp <;> omega
      rw [h1]
      cases decide (a < 0) <;> cases decide (b < 0) <;> rfl
    rw [hq, e]
    rcases sg_sub Z (sizeOf' a) (decide (a < 0)) with h | h <;> rw [ha] at h <;> omega

theorem addV_comm (a b : Int) : resV (b + a) = resV (a + b) ∧ resB (b + a) = resB (a + b) := by rw [Int.add_comm]; exact ⟨rfl, rfl⟩
theorem mulV_comm (a b : Int) : resV (mulZ b a) = resV (mulZ a b) ∧ resB (mulZ b a) = resB (mulZ a b) := by rw [mulZ_comm]; exact ⟨rfl, rfl⟩
set_option maxRecDepth 100000 in
set_option maxHeartbeats 3200000 in
theorem decOrder_any (a b : Int) (ha : InI a) (hb : InI b) (w : World) :
    Calls Tryd.prog 7 #[.int .i64 a, .int .i64 b] w fun e w' => e = .returned (.bool true) ∧ Below w.heap.size w w' := by
  have HA := Lib.hid ha
  have HB := Lib.hid hb
  clear ha hb
  go_enter Tryd.func7, Tryd.ntmps7
  go_wp2_with fail
  refine (add_any _ _ HA.out HB.out _).mono ?_
  rintro e w1 ⟨rfl, rfl⟩
  go_wp2_with fail
  refine (add_any _ _ HB.out HA.out _).mono ?_
  rintro e w1 ⟨rfl, rfl⟩
  rw [(addV_comm a b).1, (addV_comm a b).2]
  go_wp2_with fail
  refine (mul_b _ _ HA.out HB.out _).mono ?_
  rintro e w1 ⟨rfl, hB1⟩
  go_wp2_with fail
  refine (mul_b _ _ HB.out HA.out _).mono ?_
  rintro e w2 ⟨rfl, hB2'⟩
  rw [(mulV_comm a b).1, (mulV_comm a b).2]
  have hB2 := Below.next hB1 hB2'
  clear hB1 hB2'
  cases his : resB (a + b)
  · clear his
    cases hok : resB (mulZ a b)
    · clear hok
      go_wp2_with fail
      refine (known_any _).mono ?_
      rintro e w9 ⟨rfl, hB9⟩
      go_wp2_with fail
      go_ret
      exact ⟨rfl, Below.next hB2 hB9⟩
    · have hp := Lib.hid (resV_of hok)
      have hpI : Hid (InI (mulZ a b)) := by rw [← hp.out]; exact resV_InI _
      rw [hp.out]
      clear hok
      by_cases hb0 : b = 0
      · have hb0' : (b == 0) = true := by simp [hb0]
        clear hb0
        go_wp2_with fail
        refine (known_any _).mono ?_
        rintro e w9 ⟨rfl, hB9⟩
        go_wp2_with fail
        go_ret
        exact ⟨rfl, Below.next hB2 hB9⟩
      · have hb0' : (b == 0) = false := by simp [hb0]
        have HB0 := Lib.hid hb0
        clear hb0
        by_cases hl : a < -4611686018427387903
        · skip
          go_wp2_with fail
          refine (known_any _).mono ?_
          rintro e w9 ⟨rfl, hB9⟩
          go_wp2_with fail
          go_ret
          exact ⟨rfl, Below.next hB2 hB9⟩
        · by_cases hg : 4611686018427387903 < a
          · skip
            go_wp2_with fail
            refine (known_any _).mono ?_
            rintro e w9 ⟨rfl, hB9⟩
            go_wp2_with fail
            go_ret
            exact ⟨rfl, Below.next hB2 hB9⟩
          · go_wp2_with fail
            refine (quo_b (mulZ a b) b hpI.out HB.out _).mono ?_
            rintro e w5 ⟨rfl, hB5⟩
            have hqe : quoV (mulZ a b) b = resV (quoZ (mulZ a b) b) ∧ quoB (mulZ a b) b = resB (quoZ (mulZ a b) b) := by unfold quoV quoB; rw [if_neg HB0.out, if_neg HB0.out]; exact ⟨rfl, rfl⟩
            rw [hqe.1, hqe.2]
            clear hqe
            have hBB := Below.next hB2 hB5
            cases hfine : resB (quoZ (mulZ a b) b)
            · clear hfine
              go_wp2_with fail
              refine (known_any _).mono ?_
              rintro e w9 ⟨rfl, hB9⟩
              go_wp2_with fail
              go_ret
              exact ⟨rfl, Below.next hBB hB9⟩
            · have hz := Lib.hid (resV_of hfine)
              rw [hz.out]
              clear hfine
              have hback := Lib.hid (fun far => quo_back (a := a) (b := b) (far := far) HB0.out)
              obtain ⟨z, EZ⟩ : ∃ z, Hid (quoZ (mulZ a b) b = z) := ⟨_, rfl⟩
              rw [EZ.out] at hback ⊢
              by_cases hb1 : 10000 ≤ b
              · have hd := hback.out 1 (far_big (by rw [size_p (by omega)]; exact hb1))
                obtain ⟨hd1, hd2⟩ := hd
                by_cases hs : z - a < 0
                · skip
                  go_wp2_with fail
                  refine (known_any _).mono ?_
                  rintro e w9 ⟨rfl, hB9⟩
                  go_wp2_with fail
                  go_ret
                  exact ⟨rfl, Below.next hBB hB9⟩
                · skip
                  go_wp2_with fail
                  refine (known_any _).mono ?_
                  rintro e w9 ⟨rfl, hB9⟩
                  go_wp2_with fail
                  go_ret
                  exact ⟨rfl, Below.next hBB hB9⟩
              · by_cases hb2 : b ≤ -10000
                · have hd := hback.out 1 (far_big (by rw [size_n (by omega)]; omega))
                  obtain ⟨hd1, hd2⟩ := hd
                  by_cases hs : z - a < 0
                  · skip
                    go_wp2_with fail
                    refine (known_any _).mono ?_
                    rintro e w9 ⟨rfl, hB9⟩
                    go_wp2_with fail
                    go_ret
                    exact ⟨rfl, Below.next hBB hB9⟩
                  · skip
                    go_wp2_with fail
                    refine (known_any _).mono ?_
                    rintro e w9 ⟨rfl, hB9⟩
                    go_wp2_with fail
                    go_ret
                    exact ⟨rfl, Below.next hBB hB9⟩
                · by_cases hb3 : 0 < b
                  · have hd := hback.out (10000 / b + 2) (by have := far_small (B := sizeOf' b) (by rw [size_p (by omega)]; omega) (by rw [size_p (by omega)]; omega); rw [size_p (by omega)] at this ⊢; exact this)
                    obtain ⟨hd1, hd2⟩ := hd
                    have hmx : max b (-b) = b := by omega
                    have hdv : 0 ≤ 10000 / b ∧ 10000 / b ≤ 10000 := ⟨Int.ediv_nonneg (by omega) (by omega), Int.ediv_le_self _ (by omega)⟩
                    obtain ⟨hdv0, hdv1⟩ := hdv
                    by_cases hs : z - a < 0
                    · skip
                      go_wp2_with fail
                      refine (known_any _).mono ?_
                      rintro e w9 ⟨rfl, hB9⟩
                      go_wp2_with fail
                      go_ret
                      exact ⟨rfl, Below.next hBB hB9⟩
                    · skip
                      go_wp2_with fail
                      refine (known_any _).mono ?_
                      rintro e w9 ⟨rfl, hB9⟩
                      go_wp2_with fail
                      go_ret
                      exact ⟨rfl, Below.next hBB hB9⟩
                  · obtain ⟨c, rfl⟩ : ∃ c, b = -c := ⟨-b, by omega⟩
                    have hbn : 0 < c := by have := HB0.out; omega
                    have hd := hback.out (10000 / c + 2) (by have := far_small (B := sizeOf' (-c)) (by rw [size_n (by omega)]; omega) (by rw [size_n (by omega)]; omega); rw [size_n (by omega), Int.neg_neg] at this ⊢; exact this)
                    obtain ⟨hd1, hd2⟩ := hd
                    have hmx : max (-c) c = c := by omega
                    have hdv : 0 ≤ 10000 / c ∧ 10000 / c ≤ 10000 := ⟨Int.ediv_nonneg (by omega) (by omega), Int.ediv_le_self _ (by omega)⟩
                    obtain ⟨hdv0, hdv1⟩ := hdv
                    by_cases hs : z - a < 0
                    · skip
                      go_wp2_with fail
                      refine (known_any _).mono ?_
                      rintro e w9 ⟨rfl, hB9⟩
                      go_wp2_with fail
                      go_ret
                      exact ⟨rfl, Below.next hBB hB9⟩
                    · skip
                      go_wp2_with fail
                      refine (known_any _).mono ?_
                      rintro e w9 ⟨rfl, hB9⟩
                      go_wp2_with fail
                      go_ret
                      exact ⟨rfl, Below.next hBB hB9⟩
  · have hv := Lib.hid (resV_of his)
    have hI : Hid (InI (a + b)) := by rw [← hv.out]; exact resV_InI _
    rw [hv.out]
    clear his
    by_cases hm : a < -9223372036854775807
    · have hm' : ¬ -9223372036854775807 ≤ a := by omega
      cases hok : resB (mulZ a b)
      · clear hok
        go_wp2_with fail
        refine (known_any _).mono ?_
        rintro e w9 ⟨rfl, hB9⟩
        go_wp2_with fail
        go_ret
        exact ⟨rfl, Below.next hB2 hB9⟩
      · have hp := Lib.hid (resV_of hok)
        have hpI : Hid (InI (mulZ a b)) := by rw [← hp.out]; exact resV_InI _
        rw [hp.out]
        clear hok
        by_cases hb0 : b = 0
        · have hb0' : (b == 0) = true := by simp [hb0]
          clear hb0
          go_wp2_with fail
          refine (known_any _).mono ?_
          rintro e w9 ⟨rfl, hB9⟩
          go_wp2_with fail
          go_ret
          exact ⟨rfl, Below.next hB2 hB9⟩
        · have hb0' : (b == 0) = false := by simp [hb0]
          have HB0 := Lib.hid hb0
          clear hb0
          have hl : a < -4611686018427387903 := by omega
          go_wp2_with fail
          refine (known_any _).mono ?_
          rintro e w9 ⟨rfl, hB9⟩
          go_wp2_with fail
          go_ret
          exact ⟨rfl, Below.next hB2 hB9⟩
    · have g1 : Hid (resV a = a ∧ resB a = true) := ⟨resV_t (by have := HA.out; unfold InI at this; omega), resB_t (by have := HA.out; unfold InI at this; omega)⟩
      go_wp2_with fail
      refine (sub_any (a + b) b hI.out HB.out _).mono ?_
      rintro e w3 ⟨rfl, rfl⟩
      rw [show a + b - b = a by omega, g1.out.1, g1.out.2]
      cases hok : resB (mulZ a b)
      · clear hok
        go_wp2_with fail
        refine (known_any _).mono ?_
        rintro e w9 ⟨rfl, hB9⟩
        go_wp2_with fail
        go_ret
        exact ⟨rfl, Below.next hB2 hB9⟩
      · have hp := Lib.hid (resV_of hok)
        have hpI : Hid (InI (mulZ a b)) := by rw [← hp.out]; exact resV_InI _
        rw [hp.out]
        clear hok
        by_cases hb0 : b = 0
        · have hb0' : (b == 0) = true := by simp [hb0]
          clear hb0
          go_wp2_with fail
          refine (known_any _).mono ?_
          rintro e w9 ⟨rfl, hB9⟩
          go_wp2_with fail
          go_ret
          exact ⟨rfl, Below.next hB2 hB9⟩
        · have hb0' : (b == 0) = false := by simp [hb0]
          have HB0 := Lib.hid hb0
          clear hb0
          by_cases hl : a < -4611686018427387903
          · skip
            go_wp2_with fail
            refine (known_any _).mono ?_
            rintro e w9 ⟨rfl, hB9⟩
            go_wp2_with fail
            go_ret
            exact ⟨rfl, Below.next hB2 hB9⟩
          · by_cases hg : 4611686018427387903 < a
            · skip
              go_wp2_with fail
              refine (known_any _).mono ?_
              rintro e w9 ⟨rfl, hB9⟩
              go_wp2_with fail
              go_ret
              exact ⟨rfl, Below.next hB2 hB9⟩
            · go_wp2_with fail
              refine (quo_b (mulZ a b) b hpI.out HB.out _).mono ?_
              rintro e w5 ⟨rfl, hB5⟩
              have hqe : quoV (mulZ a b) b = resV (quoZ (mulZ a b) b) ∧ quoB (mulZ a b) b = resB (quoZ (mulZ a b) b) := by unfold quoV quoB; rw [if_neg HB0.out, if_neg HB0.out]; exact ⟨rfl, rfl⟩
              rw [hqe.1, hqe.2]
              clear hqe
              have hBB := Below.next hB2 hB5
              cases hfine : resB (quoZ (mulZ a b) b)
              · clear hfine
                go_wp2_with fail
                refine (known_any _).mono ?_
                rintro e w9 ⟨rfl, hB9⟩
                go_wp2_with fail
                go_ret
                exact ⟨rfl, Below.next hBB hB9⟩
              · have hz := Lib.hid (resV_of hfine)
                rw [hz.out]
                clear hfine
                have hback := Lib.hid (fun far => quo_back (a := a) (b := b) (far := far) HB0.out)
                obtain ⟨z, EZ⟩ : ∃ z, Hid (quoZ (mulZ a b) b = z) := ⟨_, rfl⟩
                rw [EZ.out] at hback ⊢
                by_cases hb1 : 10000 ≤ b
                · have hd := hback.out 1 (far_big (by rw [size_p (by omega)]; exact hb1))
                  obtain ⟨hd1, hd2⟩ := hd
                  by_cases hs : z - a < 0
                  · skip
                    go_wp2_with fail
                    refine (known_any _).mono ?_
                    rintro e w9 ⟨rfl, hB9⟩
                    go_wp2_with fail
                    go_ret
                    exact ⟨rfl, Below.next hBB hB9⟩
                  · skip
                    go_wp2_with fail
                    refine (known_any _).mono ?_
                    rintro e w9 ⟨rfl, hB9⟩
                    go_wp2_with fail
                    go_ret
                    exact ⟨rfl, Below.next hBB hB9⟩
                · by_cases hb2 : b ≤ -10000
                  · have hd := hback.out 1 (far_big (by rw [size_n (by omega)]; omega))
                    obtain ⟨hd1, hd2⟩ := hd
                    by_cases hs : z - a < 0
                    · skip
                      go_wp2_with fail
                      refine (known_any _).mono ?_
                      rintro e w9 ⟨rfl, hB9⟩
                      go_wp2_with fail
                      go_ret
                      exact ⟨rfl, Below.next hBB hB9⟩
                    · skip
                      go_wp2_with fail
                      refine (known_any _).mono ?_
                      rintro e w9 ⟨rfl, hB9⟩
                      go_wp2_with fail
                      go_ret
                      exact ⟨rfl, Below.next hBB hB9⟩
                  · by_cases hb3 : 0 < b
                    · have hd := hback.out (10000 / b + 2) (by have := far_small (B := sizeOf' b) (by rw [size_p (by omega)]; omega) (by rw [size_p (by omega)]; omega); rw [size_p (by omega)] at this ⊢; exact this)
                      obtain ⟨hd1, hd2⟩ := hd
                      have hmx : max b (-b) = b := by omega
                      have hdv : 0 ≤ 10000 / b ∧ 10000 / b ≤ 10000 := ⟨Int.ediv_nonneg (by omega) (by omega), Int.ediv_le_self _ (by omega)⟩
                      obtain ⟨hdv0, hdv1⟩ := hdv
                      by_cases hs : z - a < 0
                      · skip
                        go_wp2_with fail
                        refine (known_any _).mono ?_
                        rintro e w9 ⟨rfl, hB9⟩
                        go_wp2_with fail
                        go_ret
                        exact ⟨rfl, Below.next hBB hB9⟩
                      · skip
                        go_wp2_with fail
                        refine (known_any _).mono ?_
                        rintro e w9 ⟨rfl, hB9⟩
                        go_wp2_with fail
                        go_ret
                        exact ⟨rfl, Below.next hBB hB9⟩
                    · obtain ⟨c, rfl⟩ : ∃ c, b = -c := ⟨-b, by omega⟩
                      have hbn : 0 < c := by have := HB0.out; omega
                      have hd := hback.out (10000 / c + 2) (by have := far_small (B := sizeOf' (-c)) (by rw [size_n (by omega)]; omega) (by rw [size_n (by omega)]; omega); rw [size_n (by omega), Int.neg_neg] at this ⊢; exact this)
                      obtain ⟨hd1, hd2⟩ := hd
                      have hmx : max (-c) c = c := by omega
                      have hdv : 0 ≤ 10000 / c ∧ 10000 / c ≤ 10000 := ⟨Int.ediv_nonneg (by omega) (by omega), Int.ediv_le_self _ (by omega)⟩
                      obtain ⟨hdv0, hdv1⟩ := hdv
                      by_cases hs : z - a < 0
                      · skip
                        go_wp2_with fail
                        refine (known_any _).mono ?_
                        rintro e w9 ⟨rfl, hB9⟩
                        go_wp2_with fail
                        go_ret
                        exact ⟨rfl, Below.next hBB hB9⟩
                      · skip
                        go_wp2_with fail
                        refine (known_any _).mono ?_
                        rintro e w9 ⟨rfl, hB9⟩
                        go_wp2_with fail
                        go_ret
                        exact ⟨rfl, Below.next hBB hB9⟩
end Go.Proofs.YticjclllhjehfaaDoor
