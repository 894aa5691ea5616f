/- Contracts of Sqrt, of dec and of its specification: the greatest number whose square is not greater. -/
import Derived.Test.YtdanbabamcdebaaGreatDoorDecMul
namespace Go.Proofs.YtdanbabamcdebaaGreatDoor
open Go.RowKit

/-- r is the root of S, rounded down. -/
def IsRoot (S r : Int) : Prop := 0 ≤ r ∧ r ≤ 549755813887 ∧ r * r ≤ S ∧ S < (r + 1) * (r + 1)
theorem sq_le {a b : Int} (h0 : 0 ≤ a) (h : a ≤ b) : a * a ≤ b * b := Int.mul_le_mul h h h0 (by omega)
theorem IsRoot.unique {S r t : Int} (x : IsRoot S r) (y : IsRoot S t) : r = t := by
  obtain ⟨a, _, b, c⟩ := x
  obtain ⟨d, _, e, f⟩ := y
  rcases Int.lt_trichotomy r t with h | h | h
  · have := sq_le (a := r + 1) (b := t) (by omega) (by omega); omega
  · exact h
  · have := sq_le (a := t + 1) (b := r) (by omega) (by omega); omega
/-- The state of the search of a root, bit by bit. -/
def SqI (S ρ : Int) (k : Nat) : Prop := ∃ c : Nat, ρ = ((c * 2 ^ (39 - k) : Nat) : Int) ∧ c < 2 ^ k ∧ ρ * ρ ≤ S ∧ S < (ρ + ((2 ^ (39 - k) : Nat) : Int)) * (ρ + ((2 ^ (39 - k) : Nat) : Int))
theorem SqI.start {S : Int} (h0 : 0 ≤ S) (h : S < 302231454903657293676544) : SqI S 0 0 := ⟨0, by simp, by simp, by simpa using h0, by simpa using h⟩
theorem SqI.bd {S ρ : Int} {k : Nat} (hk : k ≤ 39) (x : SqI S ρ k) : 0 ≤ ρ ∧ ρ ≤ 549755813887 := by
  obtain ⟨c, rfl, hc, _⟩ := x
  have h1 : c * 2 ^ (39 - k) < 2 ^ k * 2 ^ (39 - k) := Nat.mul_lt_mul_of_pos_right hc (Nat.two_pow_pos _)
  rw [← Nat.pow_add, show k + (39 - k) = 39 by omega] at h1
  omega
theorem SqI.or {S ρ : Int} {k : Nat} (hk : k < 39) (x : SqI S ρ k) :
    bits .or .u64 ρ (IntKind.u64.wrap (2 ^ (38 - k))) = ρ + ((2 ^ (38 - k) : Nat) : Int) ∧ 0 ≤ ρ + ((2 ^ (38 - k) : Nat) : Int) ∧ ρ + ((2 ^ (38 - k) : Nat) : Int) ≤ 549755813887 := by
  have hb := x.bd (by omega)
  obtain ⟨c, rfl, hc, _⟩ := x
  have hp : 2 ^ (39 - k) = 2 * 2 ^ (38 - k) := by rw [show 39 - k = (38 - k) + 1 by omega, Nat.pow_succ]; omega
  have hpos : 0 < 2 ^ (38 - k) := Nat.two_pow_pos _
  have hle : 2 ^ (38 - k) ≤ 2 ^ 38 := Nat.pow_le_pow_right (by omega) (by omega)
  have h1 : (c + 1) * 2 ^ (39 - k) ≤ 2 ^ k * 2 ^ (39 - k) := Nat.mul_le_mul_right _ hc
  rw [← Nat.pow_add, show k + (39 - k) = 39 by omega, Nat.add_mul] at h1
  have e0 : (2 : Int) ^ (38 - k) = ((2 ^ (38 - k) : Nat) : Int) := by simp
  refine ⟨?_, by omega, by omega⟩
  rw [e0, wrap_u64, show ((2 ^ (38 - k) : Nat) : Int) % 18446744073709551616 = ((2 ^ (38 - k) : Nat) : Int) by omega, u64_or_nat _ _ (by omega) (by omega),
    nat_join (39 - k) _ _ (by simp) (by omega)]
  omega
theorem SqI.yes {S ρ : Int} {k : Nat} (hk : k < 39) (x : SqI S ρ k) (h : (ρ + ((2 ^ (38 - k) : Nat) : Int)) * (ρ + ((2 ^ (38 - k) : Nat) : Int)) ≤ S) : SqI S (ρ + ((2 ^ (38 - k) : Nat) : Int)) (k + 1) := by
  obtain ⟨c, rfl, hc, h1, h2⟩ := x
  have hp : 2 ^ (39 - k) = 2 ^ (38 - k) + 2 ^ (38 - k) := by rw [show 39 - k = (38 - k) + 1 by omega, Nat.pow_succ]; omega
  have e : 39 - (k + 1) = 38 - k := by omega
  refine ⟨2 * c + 1, ?_, by rw [Nat.pow_succ]; omega, h, ?_⟩
  · rw [e, hp, Nat.add_mul, Nat.mul_assoc, Nat.mul_add]; omega
  · rw [e]
    have e2 : ((c * 2 ^ (39 - k) : Nat) : Int) + ((2 ^ (38 - k) : Nat) : Int) + ((2 ^ (38 - k) : Nat) : Int) = ((c * 2 ^ (39 - k) : Nat) : Int) + ((2 ^ (39 - k) : Nat) : Int) := by rw [Int.add_assoc, ← Int.natCast_add, ← hp]
    rw [e2]; exact h2
theorem SqI.no {S ρ : Int} {k : Nat} (hk : k < 39) (x : SqI S ρ k) (h : S < (ρ + ((2 ^ (38 - k) : Nat) : Int)) * (ρ + ((2 ^ (38 - k) : Nat) : Int))) : SqI S ρ (k + 1) := by
  obtain ⟨c, rfl, hc, h1, h2⟩ := x
  have hp : 2 ^ (39 - k) = 2 ^ (38 - k) + 2 ^ (38 - k) := by rw [show 39 - k = (38 - k) + 1 by omega, Nat.pow_succ]; omega
  have e : 39 - (k + 1) = 38 - k := by omega
  refine ⟨2 * c, ?_, by rw [Nat.pow_succ]; omega, h1, ?_⟩
  · rw [e, hp, Nat.mul_assoc, Nat.mul_add]; omega
  · rw [e]; exact h
theorem SqI.stop {S ρ : Int} (x : SqI S ρ 39) : IsRoot S ρ := by
  have hb := x.bd (Nat.le_refl _)
  obtain ⟨c, rfl, hc, h1, h2⟩ := x
  exact ⟨hb.1, hb.2, h1, h2⟩
theorem le128 {m S : Int} : (m ≤ S) ↔ (hi64 m < hi64 S ∨ hi64 m = hi64 S ∧ lo64 m ≤ lo64 S) := by unfold hi64 lo64; omega

set_option maxRecDepth 100000 in
set_option maxHeartbeats 1600000 in
theorem sqrt_any (a : Int) (h0 : 0 ≤ a) (h1 : a ≤ 9223372036854775807) (w : World) :
    Calls Tryz.prog 63 #[.int .i64 a] w fun e w' => ∃ r : Int, e = .returned (.tuple #[.int .i64 r, .bool true]) ∧ IsRoot (a * 10000) r ∧ w = w' := by
  have hst : SqI (a * 10000) 0 0 := SqI.start (by omega) (by omega)
  go_enter Tryz.func63, Tryz.ntmps63
  go_wp2_with fail
  refine (mul64_any _ _ h0 (by omega) (by omega) (by omega) _).mono ?_
  rintro e w' ⟨rfl, rfl⟩
  obtain ⟨S, HS⟩ : ∃ S, Hid (a * 10000 = S) := ⟨_, rfl⟩
  rw [HS.out] at hst ⊢
  obtain ⟨sh, HSH⟩ : ∃ x, Hid (hi64 S = x) := ⟨_, rfl⟩
  obtain ⟨sl, HSL⟩ : ∃ x, Hid (lo64 S = x) := ⟨_, rfl⟩
  rw [HSH.out, HSL.out]
  have HST := Lib.hid hst
  clear hst
  go_wp2_with fail
  go_loop [6, 19] (fun s i => ∃ (k : Nat) (ρ : Int), k ≤ 39 ∧ i = .int .i64 k ∧ s = .int .u64 ρ ∧ SqI S ρ k) (fun _ i => 39 - (intOf i).toNat)
  case atStart => exact ⟨0, 0, by omega, rfl, rfl, HST.out⟩
  case round =>
    clear HST
    obtain ⟨k, ρ, hk, rfl, rfl, hI⟩ := hrel
    obtain ⟨hr0, hr1⟩ := hI.bd hk
    by_cases hlt : k < 39
    · obtain ⟨ho, ho0, ho1⟩ := hI.or hlt
      have hyes := Lib.hid (hI.yes hlt)
      have hno := Lib.hid (hI.no hlt)
      clear hI
      obtain ⟨n, HN⟩ : ∃ n, Hid (ρ + ((2 ^ (38 - k) : Nat) : Int) = n) := ⟨_, rfl⟩
      rw [HN.out] at ho ho0 ho1 hyes hno
      have HO := Lib.hid ho
      clear ho
      go_wp2_with fail
      rw [HO.out]
      refine (mul64_any _ _ ho0 (by omega) ho0 (by omega) _).mono ?_
      rintro e w' ⟨rfl, rfl⟩
      have hle := Lib.hid (le128 (m := n * n) (S := S))
      rw [HSH.out, HSL.out] at hle
      obtain ⟨nh, HNH⟩ : ∃ x, Hid (hi64 (n * n) = x) := ⟨_, rfl⟩
      obtain ⟨nl, HNL⟩ : ∃ x, Hid (lo64 (n * n) = x) := ⟨_, rfl⟩
      rw [HNH.out, HNL.out] at hle ⊢
      rcases Int.lt_trichotomy nh sh with hc | hc | hc
      · have hx : Hid (SqI S n (k + 1)) := hyes.out (hle.out.2 (by omega))
        clear hle hyes hno
        go_wp2_with fail
        go_round
        case rel => exact ⟨k + 1, n, by omega, by go_num, rfl, hx.out⟩
        case measure => simp [intOf]; omega
      · have hb : (nh == sh) = true := by simp [hc]
        have hnl : ¬ nh < sh := by omega
        by_cases hl : nl ≤ sl
        · have hx : Hid (SqI S n (k + 1)) := hyes.out (hle.out.2 (by omega))
          clear hle hyes hno hc
          go_wp2_with fail
          go_round
          case rel => exact ⟨k + 1, n, by omega, by go_num, rfl, hx.out⟩
          case measure => simp [intOf]; omega
        · have hx : Hid (SqI S ρ (k + 1)) := hno.out (by
            rcases Int.lt_or_le S (n * n) with h | h
            · exact h
            · have := hle.out.1 h; omega)
          clear hle hyes hno hc
          go_wp2_with fail
          go_round
          case rel => exact ⟨k + 1, ρ, by omega, by go_num, rfl, hx.out⟩
          case measure => simp [intOf]; omega
      · have hb : (nh == sh) = false := by rw [beq_eq_false_iff_ne]; omega
        have hnl : ¬ nh < sh := by omega
        have hx : Hid (SqI S ρ (k + 1)) := hno.out (by
            rcases Int.lt_or_le S (n * n) with h | h
            · exact h
            · have := hle.out.1 h; omega)
        clear hle hyes hno
        go_wp2_with fail
        go_round
        case rel => exact ⟨k + 1, ρ, by omega, by go_num, rfl, hx.out⟩
        case measure => simp [intOf]; omega
    · have hfin : Hid (IsRoot S ρ) := by
        have hk' : k = 39 := by omega
        rw [hk'] at hI
        exact hI.stop
      clear hI
      go_wp2_with fail
      go_ret2
      exact ⟨ρ, rfl, by rw [HS.out]; exact hfin.out, rfl⟩
set_option maxHeartbeats 400000 in
theorem sqrt_neg (a : Int) (h0 : a < 0) (w : World) :
    Calls Tryz.prog 63 #[.int .i64 a] w fun e w' => e = .returned (.tuple #[.int .i64 0, .bool false]) ∧ w = w' := by
  go_enter Tryz.func63, Tryz.ntmps63
  go_wp2_with fail
  go_ret2
  exact ⟨rfl, rfl⟩
end Go.Proofs.YtdanbabamcdebaaGreatDoor
