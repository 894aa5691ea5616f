/- Merged: DecRnd DecRound DecSqrt. -/
import Derived.Test.YtdanbabamcdebaaGreatDoorHold
import Derived.Test.YtdanbabamcdebaaGreatDoorBits
import Derived.Test.YtdanbabamcdebaaGreatDoorP1
/- Contracts of Round, Trunc and Floor, of dec. -/
namespace Go.Proofs.YtdanbabamcdebaaGreatDoor
open Go.RowKit

/-- a without its places. -/
def truncZ (a : Int) : Int := a - a.tmod 10000
theorem trunc_eq {a : Int} (h : InI a) : wrap64 (wrap64 (a.tdiv 10000) * 10000) = truncZ a := by
  unfold truncZ InI wrap64 at *
  rcases Int.le_total 0 a with h0 | h0
  · rw [Int.tdiv_eq_ediv_of_nonneg h0, Int.tmod_eq_emod_of_nonneg h0]; omega
  · obtain ⟨b, rfl⟩ : ∃ b, a = -b := ⟨-a, by omega⟩
    rw [Int.neg_tdiv, Int.neg_tmod, Int.tdiv_eq_ediv_of_nonneg (by omega), Int.tmod_eq_emod_of_nonneg (by omega)]; omega
set_option maxHeartbeats 400000 in
theorem trunc_any (a : Int) (h : InI a) (w : World) :
    Calls Tryz.prog 62 #[.int .i64 a] w fun e w' => e = .returned (.int .i64 (truncZ a)) ∧ w = w' := by
  have e1 := Lib.hid (trunc_eq h)
  clear h
  go_enter Tryz.func62, Tryz.ntmps62
  go_wp2
  go_ret

  exact ⟨retI e1.out, rfl⟩
theorem trunc_bd {a : Int} (h : InI a) : InI (truncZ a) ∧ -9223372036854775808 < truncZ a := by
  unfold truncZ InI at *
  rcases Int.le_total 0 a with h0 | h0
  · rw [Int.tmod_eq_emod_of_nonneg h0]; omega
  · obtain ⟨b, rfl⟩ : ∃ b, a = -b := ⟨-a, by omega⟩
    rw [Int.neg_tmod, Int.tmod_eq_emod_of_nonneg (by omega)]; omega
/-- The greatest whole number that is not greater. -/
def floorZ (a : Int) : Int := if a < truncZ a then truncZ a - 10000 else truncZ a
set_option maxHeartbeats 400000 in
theorem floor_any (a : Int) (h : InI a) (w : World) :
    Calls Tryz.prog 61 #[.int .i64 a] w fun e w' => e = .returned (.tuple #[.int .i64 (resV (floorZ a)), .bool (resB (floorZ a))]) ∧ w = w' := by
  have ht := Lib.hid (trunc_bd h)
  have HA := Lib.hid h
  clear h
  by_cases hc : a < truncZ a
  · have e1 : floorZ a = truncZ a - 10000 := by unfold floorZ; rw [if_pos hc]
    rw [e1]
    clear e1
    go_enter Tryz.func61, Tryz.ntmps61
    go_wp2_with fail
    refine (trunc_any a HA.out _).mono ?_
    rintro e w' ⟨rfl, rfl⟩
    go_wp2_with fail
    refine (sub_any _ 10000 ht.out.1 (by unfold InI; omega) _).mono ?_
    rintro e w' ⟨rfl, rfl⟩
    go_wp2_with fail
    go_ret2
    exact ⟨rfl, rfl⟩
  · have e1 : floorZ a = truncZ a := by unfold floorZ; rw [if_neg hc]
    rw [e1, resV_t (by have := ht.out; unfold InI at this; omega), resB_t (by have := ht.out; unfold InI at this; omega)]
    clear e1
    go_enter Tryz.func61, Tryz.ntmps61
    go_wp2_with fail
    refine (trunc_any a HA.out _).mono ?_
    rintro e w' ⟨rfl, rfl⟩
    go_wp2_with fail
    go_ret2
    exact ⟨rfl, rfl⟩
end Go.Proofs.YtdanbabamcdebaaGreatDoor
/- Contracts of Round, of dec. -/
namespace Go.Proofs.YtdanbabamcdebaaGreatDoor
open Go.RowKit

/-- A power of ten. -/
def p10 (k : Nat) : Int := 10 ^ k
theorem p10_succ (k : Nat) : p10 (k + 1) = p10 k * 10 := by unfold p10; rw [Int.pow_succ]
theorem p10_zero : p10 0 = 1 := rfl
theorem p10_pos (k : Nat) : 1 ≤ p10 k := by
  induction k with
  | zero => simp [p10]
  | succ k ih => rw [p10_succ]; omega
theorem p10_mono {a b : Nat} (h : a ≤ b) : p10 a ≤ p10 b := by
  induction h with
  | refl => exact Int.le_refl _
  | step _ ih => rw [p10_succ]; have := p10_pos a; omega
theorem p10_19 : p10 19 = 10000000000000000000 := by decide
theorem p10_le {k : Nat} (h : k ≤ 19) : p10 k ≤ 10000000000000000000 := by rw [← p10_19]; exact p10_mono h
/-- a, rounded to a multiple of 10^k. -/
def roundZ (a : Int) (k : Nat) : Int := sg ((sizeOf' a + p10 k / 2) / p10 k * p10 k) (decide (a < 0))
theorem round_bd {s d : Int} (h0 : 0 ≤ s) (hd : 1 ≤ d) : 0 ≤ (s + d / 2) / d * d ∧ (s + d / 2) / d * d ≤ s + d / 2 ∧ 0 ≤ (s + d / 2) / d ∧ (s + d / 2) / d ≤ s + d / 2 := by
  have e := Int.ediv_mul_add_emod (s + d / 2) d
  have a := Int.emod_nonneg (s + d / 2) (show d ≠ 0 by omega)
  have b : 0 ≤ (s + d / 2) / d := Int.ediv_nonneg (by omega) (by omega)
  have c : (s + d / 2) / d ≤ s + d / 2 := Int.ediv_le_self _ (by omega)
  have f : 0 ≤ (s + d / 2) / d * d := Int.mul_nonneg b (by omega)
  omega
/-- What Round returns: the value, and whether there is one. -/
def rndV (a p : Int) : Int := if 4 ≤ p then resV a else if p < -15 then 0 else resV (roundZ a (4 - p).toNat)
def rndB (a p : Int) : Bool := if 4 ≤ p then resB a else if p < -15 then true else resB (roundZ a (4 - p).toNat)
theorem irV_res {a : Int} (h : InI a) : irV a true = resV a := by
  unfold irV resV InI at *
  by_cases h2 : a = -9223372036854775808
  · rw [if_neg (by simp [h2]), if_neg (by omega)]
  · rw [if_pos ⟨rfl, h2⟩, if_pos (by omega)]
theorem irB_res {a : Int} (h : InI a) : irB a true = resB a := by
  unfold irB resB InI at *
  by_cases h2 : a = -9223372036854775808
  · rw [h2]; decide
  · rw [decide_eq_true h2, decide_eq_true (by omega)]; rfl

set_option maxHeartbeats 800000 in
theorem round_any (a p : Int) (h : InI a) (hp0 : -9223372036854775808 ≤ p) (w : World) :
    Calls Tryz.prog 64 #[.int .i64 a, .int .i64 p] w fun e w' => e = .returned (.tuple #[.int .i64 (rndV a p), .bool (rndB a p)]) ∧ w = w' := by
  have HA := Lib.hid h
  by_cases h4 : 4 ≤ p
  · have e1 : rndV a p = resV a := by unfold rndV; rw [if_pos h4]
    have e2 : rndB a p = resB a := by unfold rndB; rw [if_pos h4]
    rw [e1, e2, ← irV_res h, ← irB_res h]
    clear e1 e2 h
    go_enter Tryz.func64, Tryz.ntmps64
    go_wp2_with fail
    refine (inRange_any _ _ _).mono ?_
    rintro e w' ⟨rfl, rfl⟩
    go_wp2_with fail
    go_ret2
    exact ⟨rfl, rfl⟩
  · by_cases h15 : p < -15
    · have e1 : rndV a p = 0 := by unfold rndV; rw [if_neg h4, if_pos h15]
      have e2 : rndB a p = true := by unfold rndB; rw [if_neg h4, if_pos h15]
      rw [e1, e2]
      clear e1 e2 h
      go_enter Tryz.func64, Tryz.ntmps64
      go_wp2_with fail
      go_ret2
      exact ⟨rfl, rfl⟩
    · have e1 : rndV a p = resV (roundZ a (4 - p).toNat) := by unfold rndV; rw [if_neg h4, if_neg h15]
      have e2 : rndB a p = resB (roundZ a (4 - p).toNat) := by unfold rndB; rw [if_neg h4, if_neg h15]
      rw [e1, e2]
      clear e1 e2
      obtain ⟨m, hm⟩ : ∃ m : Nat, (m : Int) = 4 - p := ⟨(4 - p).toNat, by omega⟩
      have hm19 : m ≤ 19 := by omega
      have hm1 : 1 ≤ m := by omega
      obtain rfl : p = 4 - (m : Int) := by omega
      rw [show (4 - (4 - (m : Int))).toNat = m by omega]
      clear h4 h15 hm hp0
      have hs := Lib.hid (size_bd' h)
      clear h
      go_enter Tryz.func64, Tryz.ntmps64
      go_wp2_with fail
      go_loop [6, 18] (fun s i => ∃ k : Nat, k ≤ m ∧ i = .int .i64 k ∧ s = .int .u64 (p10 k)) (fun _ i => m - (intOf i).toNat)
      case atStart => exact ⟨0, by omega, rfl, by rw [p10_zero]⟩
      case round =>
        obtain ⟨k, hk, rfl, rfl⟩ := hrel
        have b0 := p10_pos k
        by_cases hlt : k < m
        · have b1 : p10 k ≤ 1000000000000000000 := by
            have := p10_le (k := k + 1) (by omega)
            rw [p10_succ] at this
            omega
          have e3 := Lib.hid (p10_succ k)
          go_wp2_with fail
          go_round
          case rel => exact ⟨k + 1, by omega, by go_num, by rw [e3.out]⟩
          case measure => simp [intOf]; omega
        · obtain rfl : k = m := by omega
          have b1 := p10_le (k := k) (by omega)
          have hr := Lib.hid (round_bd (s := sizeOf' a) (d := p10 k) hs.out.1 b0)
          go_wp2_with fail
          refine (dsize_any a HA.out _).mono ?_
          rintro e w' ⟨rfl, rfl⟩
          obtain ⟨s0, s1⟩ := hs.out
          obtain ⟨r0, r1, r2, r3⟩ := hr.out
          go_wp2_with fail
          refine (dsigned_any _ r0 (by omega) _ _).mono ?_
          rintro e w' ⟨rfl, rfl⟩
          go_wp2_with fail
          go_ret2
          exact ⟨rfl, rfl⟩
end Go.Proofs.YtdanbabamcdebaaGreatDoor
/- Contracts of Sqrt, of dec and of its specification: the greatest number whose square is not greater. -/
namespace Go.Proofs.YtdanbabamcdebaaGreatDoor
open Go.RowKit

/-- r is the root of S, rounded down. -/
def IsRoot (S r : Int) : Prop := 0 ≤ r ∧ r ≤ 549755813887 ∧ r * r ≤ S ∧ S < (r + 1) * (r + 1)
theorem sq_le {a b : Int} (h0 : 0 ≤ a) (h : a ≤ b) : a * a ≤ b * b := Int.mul_le_mul h h h0 (by omega)
theorem IsRoot.unique {S r t : Int} (x : IsRoot S r) (y : IsRoot S t) : r = t := by
  obtain ⟨a, _, b, c⟩ := x
  obtain ⟨d, _, e, f⟩ := y
  rcases Int.lt_trichotomy r t with h | h | h
  · have := sq_le (a := r + 1) (b := t) (by omega) (by omega); omega
  · exact h
  · have := sq_le (a := t + 1) (b := r) (by omega) (by omega); omega
/-- The state of the search of a root, bit by bit. -/
def SqI (S ρ : Int) (k : Nat) : Prop := ∃ c : Nat, ρ = ((c * 2 ^ (39 - k) : Nat) : Int) ∧ c < 2 ^ k ∧ ρ * ρ ≤ S ∧ S < (ρ + ((2 ^ (39 - k) : Nat) : Int)) * (ρ + ((2 ^ (39 - k) : Nat) : Int))
theorem SqI.start {S : Int} (h0 : 0 ≤ S) (h : S < 302231454903657293676544) : SqI S 0 0 := ⟨0, by simp, by simp, by simpa using h0, by simpa using h⟩
theorem SqI.bd {S ρ : Int} {k : Nat} (hk : k ≤ 39) (x : SqI S ρ k) : 0 ≤ ρ ∧ ρ ≤ 549755813887 := by
  obtain ⟨c, rfl, hc, _⟩ := x
  have h1 : c * 2 ^ (39 - k) < 2 ^ k * 2 ^ (39 - k) := Nat.mul_lt_mul_of_pos_right hc (Nat.two_pow_pos _)
  rw [← Nat.pow_add, show k + (39 - k) = 39 by omega] at h1
  omega
theorem SqI.or {S ρ : Int} {k : Nat} (hk : k < 39) (x : SqI S ρ k) :
    bits .or .u64 ρ (IntKind.u64.wrap (2 ^ (38 - k))) = ρ + ((2 ^ (38 - k) : Nat) : Int) ∧ 0 ≤ ρ + ((2 ^ (38 - k) : Nat) : Int) ∧ ρ + ((2 ^ (38 - k) : Nat) : Int) ≤ 549755813887 := by
  have hb := x.bd (by omega)
  obtain ⟨c, rfl, hc, _⟩ := x
  have hp : 2 ^ (39 - k) = 2 * 2 ^ (38 - k) := by rw [show 39 - k = (38 - k) + 1 by omega, Nat.pow_succ]; omega
  have hpos : 0 < 2 ^ (38 - k) := Nat.two_pow_pos _
  have hle : 2 ^ (38 - k) ≤ 2 ^ 38 := Nat.pow_le_pow_right (by omega) (by omega)
  have h1 : (c + 1) * 2 ^ (39 - k) ≤ 2 ^ k * 2 ^ (39 - k) := Nat.mul_le_mul_right _ hc
  rw [← Nat.pow_add, show k + (39 - k) = 39 by omega, Nat.add_mul] at h1
  have e0 : (2 : Int) ^ (38 - k) = ((2 ^ (38 - k) : Nat) : Int) := by simp
  refine ⟨?_, by omega, by omega⟩
  rw [e0, wrap_u64, show ((2 ^ (38 - k) : Nat) : Int) % 18446744073709551616 = ((2 ^ (38 - k) : Nat) : Int) by omega, u64_or_nat _ _ (by omega) (by omega),
    nat_join (39 - k) _ _ (by simp) (by omega)]
  omega
theorem SqI.yes {S ρ : Int} {k : Nat} (hk : k < 39) (x : SqI S ρ k) (h : (ρ + ((2 ^ (38 - k) : Nat) : Int)) * (ρ + ((2 ^ (38 - k) : Nat) : Int)) ≤ S) : SqI S (ρ + ((2 ^ (38 - k) : Nat) : Int)) (k + 1) := by
  obtain ⟨c, rfl, hc, h1, h2⟩ := x
  have hp : 2 ^ (39 - k) = 2 ^ (38 - k) + 2 ^ (38 - k) := by rw [show 39 - k = (38 - k) + 1 by omega, Nat.pow_succ]; omega
  have e : 39 - (k + 1) = 38 - k := by omega
  refine ⟨2 * c + 1, ?_, by rw [Nat.pow_succ]; omega, h, ?_⟩
  · rw [e, hp, Nat.add_mul, Nat.mul_assoc, Nat.mul_add]; omega
  · rw [e]
    have e2 : ((c * 2 ^ (39 - k) : Nat) : Int) + ((2 ^ (38 - k) : Nat) : Int) + ((2 ^ (38 - k) : Nat) : Int) = ((c * 2 ^ (39 - k) : Nat) : Int) + ((2 ^ (39 - k) : Nat) : Int) := by rw [Int.add_assoc, ← Int.natCast_add, ← hp]
    rw [e2]; exact h2
theorem SqI.no {S ρ : Int} {k : Nat} (hk : k < 39) (x : SqI S ρ k) (h : S < (ρ + ((2 ^ (38 - k) : Nat) : Int)) * (ρ + ((2 ^ (38 - k) : Nat) : Int))) : SqI S ρ (k + 1) := by
  obtain ⟨c, rfl, hc, h1, h2⟩ := x
  have hp : 2 ^ (39 - k) = 2 ^ (38 - k) + 2 ^ (38 - k) := by rw [show 39 - k = (38 - k) + 1 by omega, Nat.pow_succ]; omega
  have e : 39 - (k + 1) = 38 - k := by omega
  refine ⟨2 * c, ?_, by rw [Nat.pow_succ]; omega, h1, ?_⟩
  · rw [e, hp, Nat.mul_assoc, Nat.mul_add]; omega
  · rw [e]; exact h
theorem SqI.stop {S ρ : Int} (x : SqI S ρ 39) : IsRoot S ρ := by
  have hb := x.bd (Nat.le_refl _)
  obtain ⟨c, rfl, hc, h1, h2⟩ := x
  exact ⟨hb.1, hb.2, h1, h2⟩
theorem le128 {m S : Int} : (m ≤ S) ↔ (hi64 m < hi64 S ∨ hi64 m = hi64 S ∧ lo64 m ≤ lo64 S) := by unfold hi64 lo64; omega

set_option maxRecDepth 100000 in
set_option maxHeartbeats 1600000 in
theorem sqrt_any (a : Int) (h0 : 0 ≤ a) (h1 : a ≤ 9223372036854775807) (w : World) :
    Calls Tryz.prog 63 #[.int .i64 a] w fun e w' => ∃ r : Int, e = .returned (.tuple #[.int .i64 r, .bool true]) ∧ IsRoot (a * 10000) r ∧ w = w' := by
  have hst : SqI (a * 10000) 0 0 := SqI.start (by omega) (by omega)
  go_enter Tryz.func63, Tryz.ntmps63
  go_wp2_with fail
  refine (mul64_any _ _ h0 (by omega) (by omega) (by omega) _).mono ?_
  rintro e w' ⟨rfl, rfl⟩
  obtain ⟨S, HS⟩ : ∃ S, Hid (a * 10000 = S) := ⟨_, rfl⟩
  rw [HS.out] at hst ⊢
  obtain ⟨sh, HSH⟩ : ∃ x, Hid (hi64 S = x) := ⟨_, rfl⟩
  obtain ⟨sl, HSL⟩ : ∃ x, Hid (lo64 S = x) := ⟨_, rfl⟩
  rw [HSH.out, HSL.out]
  have HST := Lib.hid hst
  clear hst
  go_wp2_with fail
  go_loop [6, 19] (fun s i => ∃ (k : Nat) (ρ : Int), k ≤ 39 ∧ i = .int .i64 k ∧ s = .int .u64 ρ ∧ SqI S ρ k) (fun _ i => 39 - (intOf i).toNat)
  case atStart => exact ⟨0, 0, by omega, rfl, rfl, HST.out⟩
  case round =>
    clear HST
    obtain ⟨k, ρ, hk, rfl, rfl, hI⟩ := hrel
    obtain ⟨hr0, hr1⟩ := hI.bd hk
    by_cases hlt : k < 39
    · obtain ⟨ho, ho0, ho1⟩ := hI.or hlt
      have hyes := Lib.hid (hI.yes hlt)
      have hno := Lib.hid (hI.no hlt)
      clear hI
      obtain ⟨n, HN⟩ : ∃ n, Hid (ρ + ((2 ^ (38 - k) : Nat) : Int) = n) := ⟨_, rfl⟩
      rw [HN.out] at ho ho0 ho1 hyes hno
      have HO := Lib.hid ho
      clear ho
      go_wp2_with fail
      rw [HO.out]
      refine (mul64_any _ _ ho0 (by omega) ho0 (by omega) _).mono ?_
      rintro e w' ⟨rfl, rfl⟩
      have hle := Lib.hid (le128 (m := n * n) (S := S))
      rw [HSH.out, HSL.out] at hle
      obtain ⟨nh, HNH⟩ : ∃ x, Hid (hi64 (n * n) = x) := ⟨_, rfl⟩
      obtain ⟨nl, HNL⟩ : ∃ x, Hid (lo64 (n * n) = x) := ⟨_, rfl⟩
      rw [HNH.out, HNL.out] at hle ⊢
      rcases Int.lt_trichotomy nh sh with hc | hc | hc
      · have hx : Hid (SqI S n (k + 1)) := hyes.out (hle.out.2 (by omega))
        clear hle hyes hno
        go_wp2_with fail
        go_round
        case rel => exact ⟨k + 1, n, by omega, by go_num, rfl, hx.out⟩
        case measure => simp [intOf]; omega
      · have hb : (nh == sh) = true := by simp [hc]
        have hnl : ¬ nh < sh := by omega
        by_cases hl : nl ≤ sl
        · have hx : Hid (SqI S n (k + 1)) := hyes.out (hle.out.2 (by omega))
          clear hle hyes hno hc
          go_wp2_with fail
          go_round
          case rel => exact ⟨k + 1, n, by omega, by go_num, rfl, hx.out⟩
          case measure => simp [intOf]; omega
        · have hx : Hid (SqI S ρ (k + 1)) := hno.out (by
            rcases Int.lt_or_le S (n * n) with h | h
            · exact h
            · have := hle.out.1 h; omega)
          clear hle hyes hno hc
          go_wp2_with fail
          go_round
          case rel => exact ⟨k + 1, ρ, by omega, by go_num, rfl, hx.out⟩
          case measure => simp [intOf]; omega
      · have hb : (nh == sh) = false := by rw [beq_eq_false_iff_ne]; omega
        have hnl : ¬ nh < sh := by omega
        have hx : Hid (SqI S ρ (k + 1)) := hno.out (by
            rcases Int.lt_or_le S (n * n) with h | h
            · exact h
            · have := hle.out.1 h; omega)
        clear hle hyes hno
        go_wp2_with fail
        go_round
        case rel => exact ⟨k + 1, ρ, by omega, by go_num, rfl, hx.out⟩
        case measure => simp [intOf]; omega
    · have hfin : Hid (IsRoot S ρ) := by
        have hk' : k = 39 := by omega
        rw [hk'] at hI
        exact hI.stop
      clear hI
      go_wp2_with fail
      go_ret2
      exact ⟨ρ, rfl, by rw [HS.out]; exact hfin.out, rfl⟩
end Go.Proofs.YtdanbabamcdebaaGreatDoor
