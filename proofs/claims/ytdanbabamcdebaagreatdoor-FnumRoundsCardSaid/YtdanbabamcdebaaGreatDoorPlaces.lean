/- Rounding: mathematics. -/
import Derived.Test.YtdanbabamcdebaaGreatDoorDecRound
import Derived.Test.YtdanbabamcdebaaGreatDoorDecRnd
namespace Go.Proofs.YtdanbabamcdebaaGreatDoor
open Go.RowKit
theorem sg_abs (n : Int) (b : Bool) (h : 0 ≤ n) : sizeOf' (sg n b) = n := by
  unfold sizeOf' sg
  cases b
  · simp; omega
  · simp; omega
/-- What is asked of a rounded number. -/
theorem round_facts {a : Int} {m : Nat} (h : InI a) : roundZ (roundZ a m) m = roundZ a m ∧ (roundZ a m).tmod (p10 m) = 0 ∧ 2 * sizeOf' (roundZ a m - a) ≤ p10 m := by
  have hp := p10_pos m
  have hs := size_bd' h
  obtain ⟨r0, r1, r2, r3⟩ := round_bd (s := sizeOf' a) (d := p10 m) hs.1 hp
  have hq := Int.ediv_mul_add_emod (sizeOf' a + p10 m / 2) (p10 m)
  have hm0 := Int.emod_nonneg (sizeOf' a + p10 m / 2) (show p10 m ≠ 0 by omega)
  have hm1 := Int.emod_lt_of_pos (sizeOf' a + p10 m / 2) (show 0 < p10 m by omega)
  obtain ⟨q, hqe⟩ : ∃ q, (sizeOf' a + p10 m / 2) / p10 m = q := ⟨_, rfl⟩
  have eR : roundZ a m = sg (q * p10 m) (decide (a < 0)) := by unfold roundZ; rw [hqe]
  rw [hqe] at r0 r1 r2 r3 hq
  have eS : sizeOf' (roundZ a m) = q * p10 m := by rw [eR]; exact sg_abs _ _ r0
  refine ⟨?_, ?_, ?_⟩
  · have e2 : (q * p10 m + p10 m / 2) / p10 m = q := by
      rw [Int.add_comm, Int.add_mul_ediv_right _ _ (by omega), Int.ediv_eq_zero_of_lt (by omega) (by omega)]; omega
    have : roundZ (roundZ a m) m = sg (q * p10 m) (decide (roundZ a m < 0)) := by
      show sg ((sizeOf' (roundZ a m) + p10 m / 2) / p10 m * p10 m) (decide (roundZ a m < 0)) = _
      rw [eS, e2]
    rw [this, ← eS]
    exact sg_size _
  · rw [eR]
    unfold sg
    cases decide (a < 0)
    · simp
    · simp
  · rw [eR]
    by_cases ha : a < 0
    · rw [size_n ha] at hq hm0 hm1 r1
      simp only [sg, ha, decide_true, if_true]
      unfold sizeOf'
      split <;> omega
    · rw [size_p ha] at hq hm0 hm1 r1
      simp only [sg, ha, decide_false]
      unfold sizeOf'
      split <;> simp_all <;> omega
theorem trunc_facts {a : Int} : (truncZ a).tmod 10000 = 0 ∧ truncZ (truncZ a) = truncZ a ∧ sizeOf' (a - truncZ a) < 10000 ∧ (0 ≤ a → truncZ a ≤ a) ∧ (a ≤ 0 → a ≤ truncZ a) := by
  have key : (truncZ a).tmod 10000 = 0 := by
    unfold truncZ
    rcases Int.le_total 0 a with h0 | h0
    · rw [Int.tmod_eq_emod_of_nonneg h0, Int.tmod_eq_emod_of_nonneg (by omega)]; omega
    · obtain ⟨b, rfl⟩ : ∃ b, a = -b := ⟨-a, by omega⟩
      have h1 : (-b).tmod 10000 = -(b % 10000) := by rw [Int.neg_tmod, Int.tmod_eq_emod_of_nonneg (by omega)]
      rw [h1, show -b - -(b % 10000) = -(b - b % 10000) by omega, Int.neg_tmod, Int.tmod_eq_emod_of_nonneg (by omega)]; omega
  refine ⟨key, ?_, ?_, ?_, ?_⟩
  · show truncZ a - (truncZ a).tmod 10000 = truncZ a
    rw [key]; omega
  · unfold truncZ
    rcases Int.le_total 0 a with h0 | h0
    · rw [Int.tmod_eq_emod_of_nonneg h0]; unfold sizeOf'; split <;> omega
    · obtain ⟨b, rfl⟩ : ∃ b, a = -b := ⟨-a, by omega⟩
      rw [Int.neg_tmod, Int.tmod_eq_emod_of_nonneg (by omega)]; unfold sizeOf'; split <;> omega
  · exact trunc_pos
  · intro h
    by_cases h0 : a < 0
    · exact trunc_neg h0
    · have : a = 0 := by omega
      subst this
      decide
theorem floor_facts {a : Int} : (floorZ a).tmod 10000 = 0 ∧ floorZ (floorZ a) = floorZ a ∧ floorZ a ≤ a ∧ sizeOf' (a - floorZ a) < 10000 := by
  obtain ⟨t1, t2, t3, t4, t5⟩ := trunc_facts (a := a)
  have hk : ∃ c, floorZ a = c * 10000 := by
    have hm : ∃ c, truncZ a = c * 10000 := by
      obtain ⟨c, hc⟩ := Int.dvd_of_tmod_eq_zero t1
      exact ⟨c, by omega⟩
    obtain ⟨c, hc⟩ := hm
    unfold floorZ
    split
    · exact ⟨c - 1, by omega⟩
    · exact ⟨c, hc⟩
  obtain ⟨c, hc⟩ := hk
  have hmod : (floorZ a).tmod 10000 = 0 := by rw [hc]; exact Int.mul_tmod_left _ _
  have hle : floorZ a ≤ a ∧ sizeOf' (a - floorZ a) < 10000 := by
    by_cases h : a < truncZ a
    · have hn : a < 0 := by
        rcases Int.lt_or_le a 0 with h' | h'
        · exact h'
        · have := t4 h'; omega
      have e : floorZ a = truncZ a - 10000 := by unfold floorZ; rw [if_pos h]
      rw [e]
      unfold sizeOf' at t3 ⊢
      split at t3 <;> split <;> omega
    · have e : floorZ a = truncZ a := by unfold floorZ; rw [if_neg h]
      rw [e]
      exact ⟨by omega, t3⟩
  have htr : truncZ (floorZ a) = floorZ a := by
    show floorZ a - (floorZ a).tmod 10000 = floorZ a
    rw [hmod]; omega
  refine ⟨hmod, ?_, hle.1, hle.2⟩
  show (if floorZ a < truncZ (floorZ a) then truncZ (floorZ a) - 10000 else truncZ (floorZ a)) = floorZ a
  rw [htr, if_neg (by omega)]
end Go.Proofs.YtdanbabamcdebaaGreatDoor
