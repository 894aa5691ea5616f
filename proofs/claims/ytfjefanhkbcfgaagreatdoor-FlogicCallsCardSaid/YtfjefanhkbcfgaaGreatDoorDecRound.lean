/- Contracts of Round, of dec. -/
import Derived.Test.YtfjefanhkbcfgaaGreatDoorDecRnd
import Derived.Test.YtfjefanhkbcfgaaGreatDoorBits
namespace Go.Proofs.YtfjefanhkbcfgaaGreatDoor
open Go.RowKit

/-- A power of ten. -/
def p10 (k : Nat) : Int := 10 ^ k
theorem p10_succ (k : Nat) : p10 (k + 1) = p10 k * 10 := by unfold p10; rw [Int.pow_succ]
theorem p10_zero : p10 0 = 1 := rfl
theorem p10_pos (k : Nat) : 1 ≤ p10 k := by
  induction k with
  | zero => simp [p10]
  | succ k ih => rw [p10_succ]; omega
theorem p10_mono {a b : Nat} (h : a ≤ b) : p10 a ≤ p10 b := by
  induction h with
  | refl => exact Int.le_refl _
  | step _ ih => rw [p10_succ]; have := p10_pos a; omega
theorem p10_19 : p10 19 = 10000000000000000000 := by decide
theorem p10_le {k : Nat} (h : k ≤ 19) : p10 k ≤ 10000000000000000000 := by rw [← p10_19]; exact p10_mono h
/-- a, rounded to a multiple of 10^k. -/
def roundZ (a : Int) (k : Nat) : Int := sg ((sizeOf' a + p10 k / 2) / p10 k * p10 k) (decide (a < 0))
theorem round_bd {s d : Int} (h0 : 0 ≤ s) (hd : 1 ≤ d) : 0 ≤ (s + d / 2) / d * d ∧ (s + d / 2) / d * d ≤ s + d / 2 ∧ 0 ≤ (s + d / 2) / d ∧ (s + d / 2) / d ≤ s + d / 2 := by
  have e := Int.ediv_mul_add_emod (s + d / 2) d
  have a := Int.emod_nonneg (s + d / 2) (show d ≠ 0 by omega)
  have b : 0 ≤ (s + d / 2) / d := Int.ediv_nonneg (by omega) (by omega)
  have c : (s + d / 2) / d ≤ s + d / 2 := Int.ediv_le_self _ (by omega)
  have f : 0 ≤ (s + d / 2) / d * d := Int.mul_nonneg b (by omega)
  omega
/-- What Round returns: the value, and whether there is one. -/
def rndV (a p : Int) : Int := if 4 ≤ p then resV a else if p < -15 then 0 else resV (roundZ a (4 - p).toNat)
def rndB (a p : Int) : Bool := if 4 ≤ p then resB a else if p < -15 then true else resB (roundZ a (4 - p).toNat)
theorem irV_res {a : Int} (h : InI a) : irV a true = resV a := by
  unfold irV resV InI at *
  by_cases h2 : a = -9223372036854775808
  · rw [if_neg (by simp [h2]), if_neg (by omega)]
  · rw [if_pos ⟨rfl, h2⟩, if_pos (by omega)]
theorem irB_res {a : Int} (h : InI a) : irB a true = resB a := by
  unfold irB resB InI at *
  by_cases h2 : a = -9223372036854775808
  · rw [h2]; decide
  · rw [decide_eq_true h2, decide_eq_true (by omega)]; rfl

set_option maxHeartbeats 800000 in
theorem round_any (a p : Int) (h : InI a) (hp0 : -9223372036854775808 ≤ p) (w : World) :
    Calls Tryz.prog 79 #[.int .i64 a, .int .i64 p] w fun e w' => e = .returned (.tuple #[.int .i64 (rndV a p), .bool (rndB a p)]) ∧ w = w' := by
  have HA := Lib.hid h
  by_cases h4 : 4 ≤ p
  · have e1 : rndV a p = resV a := by unfold rndV; rw [if_pos h4]
    have e2 : rndB a p = resB a := by unfold rndB; rw [if_pos h4]
    rw [e1, e2, ← irV_res h, ← irB_res h]
    clear e1 e2 h
    go_enter Tryz.func79, Tryz.ntmps79
    go_wp2_with fail
    refine (inRange_any _ _ _).mono ?_
    rintro e w' ⟨rfl, rfl⟩
    go_wp2_with fail
    go_ret2
    exact ⟨rfl, rfl⟩
  · by_cases h15 : p < -15
    · have e1 : rndV a p = 0 := by unfold rndV; rw [if_neg h4, if_pos h15]
      have e2 : rndB a p = true := by unfold rndB; rw [if_neg h4, if_pos h15]
      rw [e1, e2]
      clear e1 e2 h
      go_enter Tryz.func79, Tryz.ntmps79
      go_wp2_with fail
      go_ret2
      exact ⟨rfl, rfl⟩
    · have e1 : rndV a p = resV (roundZ a (4 - p).toNat) := by unfold rndV; rw [if_neg h4, if_neg h15]
      have e2 : rndB a p = resB (roundZ a (4 - p).toNat) := by unfold rndB; rw [if_neg h4, if_neg h15]
      rw [e1, e2]
      clear e1 e2
      obtain ⟨m, hm⟩ : ∃ m : Nat, (m : Int) = 4 - p := ⟨(4 - p).toNat, by omega⟩
      have hm19 : m ≤ 19 := by omega
      have hm1 : 1 ≤ m := by omega
      obtain rfl : p = 4 - (m : Int) := by omega
      rw [show (4 - (4 - (m : Int))).toNat = m by omega]
      clear h4 h15 hm hp0
      have hs := Lib.hid (size_bd' h)
      clear h
      go_enter Tryz.func79, Tryz.ntmps79
      go_wp2_with fail
      go_loop [6, 18] (fun s i => ∃ k : Nat, k ≤ m ∧ i = .int .i64 k ∧ s = .int .u64 (p10 k)) (fun _ i => m - (intOf i).toNat)
      case atStart => exact ⟨0, by omega, rfl, by rw [p10_zero]⟩
      case round =>
        obtain ⟨k, hk, rfl, rfl⟩ := hrel
        have b0 := p10_pos k
        by_cases hlt : k < m
        · have b1 : p10 k ≤ 1000000000000000000 := by
            have := p10_le (k := k + 1) (by omega)
            rw [p10_succ] at this
            omega
          have e3 := Lib.hid (p10_succ k)
          go_wp2_with fail
          go_round
          case rel => exact ⟨k + 1, by omega, by go_num, by rw [e3.out]⟩
          case measure => simp [intOf]; omega
        · obtain rfl : k = m := by omega
          have b1 := p10_le (k := k) (by omega)
          have hr := Lib.hid (round_bd (s := sizeOf' a) (d := p10 k) hs.out.1 b0)
          go_wp2_with fail
          refine (dsize_any a HA.out _).mono ?_
          rintro e w' ⟨rfl, rfl⟩
          obtain ⟨s0, s1⟩ := hs.out
          obtain ⟨r0, r1, r2, r3⟩ := hr.out
          go_wp2_with fail
          refine (dsigned_any _ r0 (by omega) _ _).mono ?_
          rintro e w' ⟨rfl, rfl⟩
          go_wp2_with fail
          go_ret2
          exact ⟨rfl, rfl⟩
end Go.Proofs.YtfjefanhkbcfgaaGreatDoor
