/- Merged: DecMul DecPow. -/
import Derived.Test.YtdanbabamcdebaaGreatDoorD2
/- Contracts of dec.Mul and dec.Quo. -/
namespace Go.Proofs.YtdanbabamcdebaaGreatDoor
open Go.RowKit

/-- The product of two numbers, rounded, and the quotient. -/
def mulZ (a b : Int) : Int := sg ((sizeOf' a * sizeOf' b + 5000) / 10000) (decide (a < 0) != decide (b < 0))
def quoZ (a b : Int) : Int := sg ((sizeOf' a * 10000 + sizeOf' b / 2) / sizeOf' b) (decide (a < 0) != decide (b < 0))
theorem isW_split {n : Int} (h0 : 0 ≤ n) (h1 : n < 340282366920938463463374607431768211456) : IsW (hi64 n) (lo64 n) n := by
  unfold IsW InU hi64 lo64; omega
theorem size_mul_bd {a b : Int} (ha : InI a) (hb : InI b) : 0 ≤ sizeOf' a * sizeOf' b ∧ sizeOf' a * sizeOf' b ≤ 85070591730234615865843651857942052864 := by
  have h1 := size_bd' ha
  have h2 := size_bd' hb
  constructor
  · exact Int.mul_nonneg h1.1 h2.1
  · calc sizeOf' a * sizeOf' b ≤ 9223372036854775808 * sizeOf' b := Int.mul_le_mul_of_nonneg_right h1.2 h2.1
      _ ≤ 9223372036854775808 * 9223372036854775808 := Int.mul_le_mul_of_nonneg_left h2.2 (by omega)
set_option maxHeartbeats 400000 in
theorem mul_any (a b : Int) (ha : InI a) (hb : InI b) (w : World) :
    Calls Tryz.prog 73 #[.int .i64 a, .int .i64 b] w fun e w' => e = .returned (.tuple #[.int .i64 (resV (mulZ a b)), .bool (resB (mulZ a b))]) ∧ ∃ k, w' = w.drewN k := by
  have HA := Lib.hid ha
  have HB := Lib.hid hb
  have sa := Lib.hid (size_bd' ha)
  have sb := Lib.hid (size_bd' hb)
  have sm := Lib.hid (size_mul_bd ha hb)
  clear ha hb
  go_enter Tryz.func73, Tryz.ntmps73
  go_wp2_with fail
  refine (dsize_any a HA.out _).mono ?_
  rintro e w' ⟨rfl, rfl⟩
  go_wp2_with fail
  refine (dsize_any b HB.out _).mono ?_
  rintro e w' ⟨rfl, rfl⟩
  go_wp2_with fail
  refine (mul64_any _ _ sa.out.1 (by have := sa.out; omega) sb.out.1 (by have := sb.out; omega) _).mono ?_
  rintro e w' ⟨rfl, rfl⟩
  go_wp2_with fail
  refine (ratio_any _ _ 10000 (sizeOf' a * sizeOf' b) _ (isW_split sm.out.1 (by have := sm.out; omega)) (by omega) (by omega) (by have := sm.out; omega) _).mono ?_
  rintro e w' ⟨rfl, k, rfl⟩
  go_wp2_with fail
  go_ret2
  exact ⟨rfl, k, rfl⟩
set_option maxHeartbeats 400000 in
theorem quo_any (a b : Int) (ha : InI a) (hb : InI b) (hb0 : ¬ b = 0) (w : World) :
    Calls Tryz.prog 41 #[.int .i64 a, .int .i64 b] w fun e w' => e = .returned (.tuple #[.int .i64 (resV (quoZ a b)), .bool (resB (quoZ a b))]) ∧ ∃ k, w' = w.drewN k := by
  have HA := Lib.hid ha
  have HB := Lib.hid hb
  have sa := Lib.hid (size_bd' ha)
  have sb := Lib.hid (size_bd' hb)
  have sb1 : Hid (1 ≤ sizeOf' b) := by unfold Hid sizeOf'; split <;> omega
  clear ha hb
  go_enter Tryz.func41, Tryz.ntmps41
  go_wp2_with fail
  refine (dsize_any a HA.out _).mono ?_
  rintro e w' ⟨rfl, rfl⟩
  go_wp2_with fail
  refine (mul64_any _ _ sa.out.1 (by have := sa.out; omega) (by omega) (by omega) _).mono ?_
  rintro e w' ⟨rfl, rfl⟩
  go_wp2_with fail
  refine (dsize_any b HB.out _).mono ?_
  rintro e w' ⟨rfl, rfl⟩
  go_wp2_with fail
  refine (ratio_any _ _ (sizeOf' b) (sizeOf' a * 10000) _ (isW_split (by have := sa.out; omega) (by have := sa.out; omega)) sb1.out (by have := sb.out; omega) (by have := sa.out; have := sb.out; omega) _).mono ?_
  rintro e w' ⟨rfl, k, rfl⟩
  go_wp2_with fail
  go_ret2
  exact ⟨rfl, k, rfl⟩
set_option maxHeartbeats 400000 in
theorem quo_zero (a : Int) (w : World) :
    Calls Tryz.prog 41 #[.int .i64 a, .int .i64 0] w fun e w' => e = .returned (.tuple #[.int .i64 0, .bool false]) ∧ w = w' := by
  go_enter Tryz.func41, Tryz.ntmps41
  go_wp2_with fail
  go_ret2
  exact ⟨rfl, rfl⟩
end Go.Proofs.YtdanbabamcdebaaGreatDoor
/- Contracts of Power, of dec and of its specification. -/
namespace Go.Proofs.YtdanbabamcdebaaGreatDoor
open Go.RowKit

theorem resV_InI (z : Int) : InI (resV z) := by unfold resV InI; split <;> omega
/-- A repeated product: none if one of the products is out of range. -/
def powZ (a : Int) : Nat → Option Int
  | 0 => some 10000
  | k + 1 => (powZ a k).bind fun p => if resB (mulZ p a) = true then some (mulZ p a) else none
def optV (o : Option Int) : Int := o.getD 0
def optB (o : Option Int) : Bool := o.isSome
theorem resV_of {z : Int} (h : resB z = true) : resV z = z := by unfold resB at h; unfold resV; rw [if_pos (of_decide_eq_true h)]
theorem resV_no {z : Int} (h : resB z = false) : resV z = 0 := by unfold resB at h; unfold resV; rw [if_neg (of_decide_eq_false h)]
theorem powZ_InI {a : Int} {k : Nat} {p : Int} (h : powZ a k = some p) : InI p := by
  cases k with
  | zero => simp [powZ] at h; subst h; unfold InI; omega
  | succ k =>
    unfold powZ at h
    cases hk : powZ a k with
    | none => rw [hk] at h; simp at h
    | some q =>
      rw [hk] at h
      simp at h
      rw [← h.2, ← resV_of h.1]
      exact resV_InI _
theorem powZ_yes {a : Int} {k : Nat} {p : Int} (h : powZ a k = some p) (hb : resB (mulZ p a) = true) : powZ a (k + 1) = some (mulZ p a) := by
  unfold powZ; rw [h]; simp [hb]
theorem powZ_no {a : Int} {k : Nat} {p : Int} (h : powZ a k = some p) (hb : resB (mulZ p a) = false) : powZ a (k + 1) = none := by
  unfold powZ; rw [h]; simp [hb]
theorem powZ_none {a : Int} {k m : Nat} (h : powZ a k = none) (hm : k ≤ m) : powZ a m = none := by
  induction hm with
  | refl => exact h
  | step _ ih => unfold powZ; rw [ih]; rfl
/-- What Power returns for an exponent from 0 on. -/
def pwV (a : Int) (k : Nat) : Int := optV (powZ a k)
def pwB (a : Int) (k : Nat) : Bool := optB (powZ a k)
theorem pw_some {a : Int} {k : Nat} {p : Int} (h : powZ a k = some p) : pwV a k = p ∧ pwB a k = true := by unfold pwV pwB optV optB; rw [h]; simp
theorem pw_none {a : Int} {k : Nat} (h : powZ a k = none) : pwV a k = 0 ∧ pwB a k = false := by unfold pwV pwB optV optB; rw [h]; simp
/-- What Power returns. -/
def powV (a n : Int) : Int :=
  if n < -1000 ∨ 1000 < n then 0 else if 0 ≤ n then pwV a n.toNat else if pwB a (-n).toNat = true ∧ ¬ pwV a (-n).toNat = 0 then resV (quoZ 10000 (pwV a (-n).toNat)) else 0
def powB (a n : Int) : Bool :=
  if n < -1000 ∨ 1000 < n then false else if 0 ≤ n then pwB a n.toNat else if pwB a (-n).toNat = true ∧ ¬ pwV a (-n).toNat = 0 then resB (quoZ 10000 (pwV a (-n).toNat)) else false

set_option maxHeartbeats 800000 in
theorem power_up (a : Int) (ha : InI a) (m : Nat) (hm : m ≤ 1000) (w : World) :
    Calls Tryz.prog 115 #[.int .i64 a, .int .i64 m] w fun e w' => e = .returned (.tuple #[.int .i64 (pwV a m), .bool (pwB a m)]) ∧ ∃ k, w' = w.drewN k := by
  have HA := Lib.hid ha
  clear ha
  go_enter Tryz.func115, Tryz.ntmps115
  go_wp2_with fail
  go_loopw [8, 33] (fun s i wr => ∃ (k : Nat) (p : Int) (d : Nat), k ≤ m ∧ i = .int .i64 k ∧ s = .int .i64 p ∧ powZ a k = some p ∧ wr = w.drewN d) (fun _ i _ => m - (intOf i).toNat)
  case atStart => exact ⟨0, 10000, 0, by omega, rfl, rfl, rfl, rfl⟩
  case round =>
    obtain ⟨k, p, d, hk, rfl, rfl, hp, rfl⟩ := hrel
    have HP := Lib.hid hp
    clear hp
    have HI := Lib.hid (powZ_InI HP.out)
    by_cases hlt : k < m
    · go_wp2_with fail
      refine (mul_any p a HI.out HA.out _).mono ?_
      rintro e w1 ⟨rfl, d1, rfl⟩
      cases hb : resB (mulZ p a)
      · have h0 : Hid (pwV a m = 0 ∧ pwB a m = false) := pw_none (powZ_none (powZ_no HP.out hb) (by omega))
        have hv : resV (mulZ p a) = 0 := resV_no hb
        clear hb
        go_wp2_with fail
        go_ret2
        exact ⟨(retIB h0.out.1 h0.out.2).symm, d + d1, rfl⟩
      · have h0 : Hid (powZ a (k + 1) = some (mulZ p a)) := powZ_yes HP.out hb
        have hv := Lib.hid (resV_of hb)
        rw [hv.out]
        clear hb
        go_wp2_with fail
        go_roundw
        case rel => exact ⟨k + 1, _, d + d1, by omega, by go_num, rfl, h0.out, rfl⟩
        case measure => simp [intOf]; omega
    · have h0 : Hid (pwV a m = p ∧ pwB a m = true) := by
        have hk' : k = m := by omega
        have := HP.out
        rw [hk'] at this
        exact pw_some this
      go_wp2_with fail
      go_ret2
      exact ⟨(retIB h0.out.1 h0.out.2).symm, d, rfl⟩
set_option maxHeartbeats 800000 in
theorem power_any (a n : Int) (ha : InI a) (hn0 : -9223372036854775808 ≤ n) (w : World) :
    Calls Tryz.prog 115 #[.int .i64 a, .int .i64 n] w fun e w' => e = .returned (.tuple #[.int .i64 (powV a n), .bool (powB a n)]) ∧ ∃ k, w' = w.drewN k := by
  have HA := Lib.hid ha
  clear ha
  by_cases h1 : n < -1000
  · have e1 : powV a n = 0 := by unfold powV; rw [if_pos (Or.inl h1)]
    have e2 : powB a n = false := by unfold powB; rw [if_pos (Or.inl h1)]
    rw [e1, e2]
    clear e1 e2
    go_enter Tryz.func115, Tryz.ntmps115
    go_wp2_with fail
    go_ret2
    exact ⟨rfl, 0, rfl⟩
  · by_cases h2 : 1000 < n
    · have e1 : powV a n = 0 := by unfold powV; rw [if_pos (Or.inr h2)]
      have e2 : powB a n = false := by unfold powB; rw [if_pos (Or.inr h2)]
      rw [e1, e2]
      clear e1 e2
      go_enter Tryz.func115, Tryz.ntmps115
      go_wp2_with fail
      go_ret2
      exact ⟨rfl, 0, rfl⟩
    · by_cases h3 : 0 ≤ n
      · obtain ⟨m, rfl⟩ := Int.eq_ofNat_of_zero_le h3
        have e1 : powV a m = pwV a m := by unfold powV; rw [if_neg (by omega), if_pos h3, Int.toNat_natCast]
        have e2 : powB a m = pwB a m := by unfold powB; rw [if_neg (by omega), if_pos h3, Int.toNat_natCast]
        rw [e1, e2]
        exact power_up a HA.out m (by omega) w
      · obtain ⟨m, hm⟩ : ∃ m : Nat, (m : Int) = -n := ⟨(-n).toNat, by omega⟩
        have hm1 : m ≤ 1000 := by omega
        obtain rfl : n = -(m : Int) := by omega
        have hneg : -(m : Int) < 0 := by omega
        obtain ⟨v, HV⟩ : ∃ v, Hid (pwV a m = v) := ⟨_, rfl⟩
        cases hb : pwB a m
        · have e1 : powV a (-(m : Int)) = 0 := by unfold powV; rw [if_neg (by omega), if_neg h3, Int.neg_neg, Int.toNat_natCast, hb, if_neg (by simp)]
          have e2 : powB a (-(m : Int)) = false := by unfold powB; rw [if_neg (by omega), if_neg h3, Int.neg_neg, Int.toNat_natCast, hb, if_neg (by simp)]
          have HB := Lib.hid hb
          rw [e1, e2]
          clear e1 e2 hb hm
          go_enter Tryz.func115, Tryz.ntmps115
          go_wp2_with fail
          refine (power_up a HA.out m hm1 _).mono ?_
          rintro e w1 ⟨rfl, d, rfl⟩
          rw [HB.out]
          go_wp2_with fail
          go_ret2
          exact ⟨rfl, d, rfl⟩
        · have hvI : Hid (InI v) := by
            rw [← HV.out]
            cases hp : powZ a m with
            | none => rw [(pw_none hp).1]; unfold Hid InI; omega
            | some q => rw [(pw_some hp).1]; exact powZ_InI hp
          by_cases hv0 : v = 0
          · have e1 : powV a (-(m : Int)) = 0 := by unfold powV; rw [if_neg (by omega), if_neg h3, Int.neg_neg, Int.toNat_natCast, HV.out, if_neg (by simp [hv0])]
            have e2 : powB a (-(m : Int)) = false := by unfold powB; rw [if_neg (by omega), if_neg h3, Int.neg_neg, Int.toNat_natCast, HV.out, if_neg (by simp [hv0])]
            have HB := Lib.hid hb
            rw [e1, e2]
            subst hv0
            clear e1 e2 hb hm
            go_enter Tryz.func115, Tryz.ntmps115
            go_wp2_with fail
            refine (power_up a HA.out m hm1 _).mono ?_
            rintro e w1 ⟨rfl, d, rfl⟩
            rw [HB.out, HV.out]
            go_wp2_with fail
            refine (quo_zero _ _).mono ?_
            rintro e w1 ⟨rfl, rfl⟩
            go_wp2_with fail
            go_ret2
            exact ⟨rfl, d, rfl⟩
          · have e1 : powV a (-(m : Int)) = resV (quoZ 10000 v) := by unfold powV; rw [if_neg (by omega), if_neg h3, Int.neg_neg, Int.toNat_natCast, HV.out, if_pos ⟨hb, hv0⟩]
            have e2 : powB a (-(m : Int)) = resB (quoZ 10000 v) := by unfold powB; rw [if_neg (by omega), if_neg h3, Int.neg_neg, Int.toNat_natCast, HV.out, if_pos ⟨hb, hv0⟩]
            have HB := Lib.hid hb
            have HV0 := Lib.hid hv0
            rw [e1, e2]
            clear e1 e2 hb hm hv0
            go_enter Tryz.func115, Tryz.ntmps115
            go_wp2_with fail
            refine (power_up a HA.out m hm1 _).mono ?_
            rintro e w1 ⟨rfl, d, rfl⟩
            rw [HB.out, HV.out]
            go_wp2_with fail
            refine (quo_any 10000 v (by unfold InI; omega) hvI.out HV0.out _).mono ?_
            rintro e w1 ⟨rfl, d1, rfl⟩
            go_wp2_with fail
            go_ret2
            exact ⟨rfl, d + d1, rfl⟩
end Go.Proofs.YtdanbabamcdebaaGreatDoor
