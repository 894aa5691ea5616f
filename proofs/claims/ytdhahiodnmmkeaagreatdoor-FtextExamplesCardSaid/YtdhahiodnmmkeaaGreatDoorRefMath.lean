/- Plain arithmetic of the specification's division bit by bit, and of its products. No program in sight. -/
import Derived.Test.YtdhahiodnmmkeaaGreatDoorNumMath
import Derived.Laws.MathBits
namespace Go.Proofs.YtdhahiodnmmkeaaGreatDoor
open Go.RowKit
def Dv (n d : Int) (k : Nat) (xh xl qh ql r : Int) : Prop :=
 ∃ T X : Int, n * 2 ^ k = T * 340282366920938463463374607431768211456 + X ∧ 0 ≤ T ∧ IsW xh xl X ∧ IsW qh ql (T / d) ∧ r = T % d
theorem Dv.start {n d h l : Int} (x : IsW h l n) : Dv n d 0 h l 0 0 0 :=
 ⟨0, n, by simp, by omega, x, by simpa using IsW.zero, by simp⟩
theorem yf1 : (2 : Int) ^ 128 = 340282366920938463463374607431768211456 := by decide
theorem Dv.bdT {n : Int} {k : Nat} {T X : Int} (h0 : 0 ≤ n) (hk : k ≤ 128) (h : n * 2 ^ k = T * 340282366920938463463374607431768211456 + X) (hX : 0 ≤ X) : T ≤ n := by
 have hp : (2 : Int) ^ k ≤ 2 ^ 128 := by
  have := Nat.pow_le_pow_right (n := 2) (by omega) hk
  exact_mod_cast this
 rw [yf1] at hp
 have := Int.mul_le_mul_of_nonneg_left hp h0
 omega
theorem Dv.next {n d : Int} {k : Nat} {xh xl qh ql r xh' xl' qh' ql' r' : Int} (hn : n < 340282366920938463463374607431768211456) (h0 : 0 ≤ n) (hk : k < 128) (hd : 1 ≤ d) (c : Int)
 (x : Dv n d k xh xl qh ql r) (hx : ∀ X, IsW xh xl X → IsW xh' xl' ((X + X) % 340282366920938463463374607431768211456))
 (hq : ∀ q, IsW qh ql q → 0 ≤ q → q * 2 + c < 340282366920938463463374607431768211456 → IsW qh' ql' (q * 2 + c))
 (hr : 0 ≤ r' ∧ r' < d) (he : r * 2 + xh / 9223372036854775808 = c * d + r') (_hc : 0 ≤ c) : Dv n d (k + 1) xh' xl' qh' ql' r' := by
 obtain ⟨T, X, h, hT, hX, hQ, rfl⟩ := x
 have hXb := hX.bd
 have hT' : n * 2 ^ (k + 1) = (2 * T + xh / 9223372036854775808) * 340282366920938463463374607431768211456 + (X + X) % 340282366920938463463374607431768211456 := by
  rw [Int.pow_succ, ← Int.mul_assoc, h]
  have := hX
  unfold IsW InU at this
  omega
 have hle : 2 * T + xh / 9223372036854775808 ≤ n := Dv.bdT h0 (by omega) hT' (by omega)
 have hxh : 0 ≤ xh / 9223372036854775808 := by have := hX.1.1; omega
 have e0 : T / d * d + T % d = T := Int.ediv_mul_add_emod T d
 have e1 : 2 * T + xh / 9223372036854775808 = (T / d * 2 + c) * d + r' := by
  rw [Int.add_mul, Int.mul_right_comm]; omega
 have eq1 : (2 * T + xh / 9223372036854775808) / d = T / d * 2 + c := by
  rw [e1, Int.add_comm, Int.add_mul_ediv_right _ _ (by omega), Int.ediv_eq_zero_of_lt hr.1 hr.2]; omega
 have eq2 : (2 * T + xh / 9223372036854775808) % d = r' := by
  rw [e1, Int.add_comm, Int.add_mul_emod_self_right, Int.emod_eq_of_lt hr.1 hr.2]
 have hq0 : 0 ≤ T / d := Int.ediv_nonneg hT (by omega)
 refine ⟨2 * T + xh / 9223372036854775808, (X + X) % 340282366920938463463374607431768211456, hT', by omega, hx X hX, ?_, eq2.symm⟩
 rw [eq1]
 apply hq _ hQ hq0
 have : (2 * T + xh / 9223372036854775808) / d ≤ 2 * T + xh / 9223372036854775808 := Int.ediv_le_self _ (by omega)
 omega
theorem zt9 {x y : Int} :
 x / 4294967296 * (y / 4294967296) * 18446744073709551616 + x % 4294967296 * (y % 4294967296) + (x / 4294967296 * (y % 4294967296)) * 4294967296 + (x % 4294967296 * (y / 4294967296)) * 4294967296 = x * y := by
 have ex : x = x / 4294967296 * 4294967296 + x % 4294967296 := by omega
 have ey : y = y / 4294967296 * 4294967296 + y % 4294967296 := by omega
 have := split_mul (x / 4294967296) (x % 4294967296) (y / 4294967296) (y % 4294967296)
 rw [← ex, ← ey] at this
 rw [this, Int.add_mul]
 omega
theorem IsW.inj {a b n m : Int} (x : IsW a b n) (y : IsW a b m) : n = m := by unfold IsW at *; omega
theorem IsW.sh {a b h l X : Int} (x : IsW a b X) (y : IsW h l ((X + X) % 340282366920938463463374607431768211456)) : ∀ q, IsW a b q → IsW h l ((q + q) % 340282366920938463463374607431768211456) := by
 intro q hq
 obtain rfl := x.inj hq
 exact y
end Go.Proofs.YtdhahiodnmmkeaaGreatDoor
