/- Contracts of Sqrt, of dec and of its specification: the greatest number whose square is not greater. -/
import Derived.Test.YtdhahiodnmmkeaaGreatDoorDecA
import Derived.Laws.MathBits
import Derived.Laws.Externs
import Derived.Test.YtdhahiodnmmkeaaGreatDoorDivMath
import Derived.Deep.CutBlock
import Derived.Deep.QuietTactic
import Derived.BigQuiet
import Derived.Deep.DeepCutAuto
namespace Go.Proofs.YtdhahiodnmmkeaaGreatDoor
open Go.RowKit

/-- The state of the search of a root, bit by bit. -/
def SqI (S ρ : Int) (k : Nat) : Prop := ∃ c : Nat, ρ = ((c * 2 ^ (39 - k) : Nat) : Int) ∧ c < 2 ^ k ∧ ρ * ρ ≤ S ∧ S < (ρ + ((2 ^ (39 - k) : Nat) : Int)) * (ρ + ((2 ^ (39 - k) : Nat) : Int))
theorem SqI.start {S : Int} (h0 : 0 ≤ S) (h : S < 302231454903657293676544) : SqI S 0 0 := ⟨0, by simp, by simp, by simpa using h0, by simpa using h⟩
theorem SqI.bd {S ρ : Int} {k : Nat} (hk : k ≤ 39) (x : SqI S ρ k) : 0 ≤ ρ ∧ ρ ≤ 549755813887 := by
  obtain ⟨c, rfl, hc, _⟩ := x
  have h1 : c * 2 ^ (39 - k) < 2 ^ k * 2 ^ (39 - k) := Nat.mul_lt_mul_of_pos_right hc (Nat.two_pow_pos _)
  rw [← Nat.pow_add, show k + (39 - k) = 39 by omega] at h1
  omega
theorem SqI.or {S ρ : Int} {k : Nat} (hk : k < 39) (x : SqI S ρ k) :
    bits .or .u64 ρ (IntKind.u64.wrap (2 ^ (38 - k))) = ρ + ((2 ^ (38 - k) : Nat) : Int) ∧ 0 ≤ ρ + ((2 ^ (38 - k) : Nat) : Int) ∧ ρ + ((2 ^ (38 - k) : Nat) : Int) ≤ 549755813887 := by
  have hb := x.bd (by omega)
  obtain ⟨c, rfl, hc, _⟩ := x
  have hp : 2 ^ (39 - k) = 2 * 2 ^ (38 - k) := by rw [show 39 - k = (38 - k) + 1 by omega, Nat.pow_succ]; omega
  have hpos : 0 < 2 ^ (38 - k) := Nat.two_pow_pos _
  have hle : 2 ^ (38 - k) ≤ 2 ^ 38 := Nat.pow_le_pow_right (by omega) (by omega)
  have h1 : (c + 1) * 2 ^ (39 - k) ≤ 2 ^ k * 2 ^ (39 - k) := Nat.mul_le_mul_right _ hc
  rw [← Nat.pow_add, show k + (39 - k) = 39 by omega, Nat.add_mul] at h1
  have e0 : (2 : Int) ^ (38 - k) = ((2 ^ (38 - k) : Nat) : Int) := by simp
  refine ⟨?_, by omega, by omega⟩
  rw [e0, wrap_u64, show ((2 ^ (38 - k) : Nat) : Int) % 18446744073709551616 = ((2 ^ (38 - k) : Nat) : Int) by omega, u64_or_nat _ _ (by omega) (by omega),
    nat_join (39 - k) _ _ (by simp) (by omega)]
  omega
theorem SqI.yes {S ρ : Int} {k : Nat} (hk : k < 39) (x : SqI S ρ k) (h : (ρ + ((2 ^ (38 - k) : Nat) : Int)) * (ρ + ((2 ^ (38 - k) : Nat) : Int)) ≤ S) : SqI S (ρ + ((2 ^ (38 - k) : Nat) : Int)) (k + 1) := by
  obtain ⟨c, rfl, hc, h1, h2⟩ := x
  have hp : 2 ^ (39 - k) = 2 ^ (38 - k) + 2 ^ (38 - k) := by rw [show 39 - k = (38 - k) + 1 by omega, Nat.pow_succ]; omega
  have e : 39 - (k + 1) = 38 - k := by omega
  refine ⟨2 * c + 1, ?_, by rw [Nat.pow_succ]; omega, h, ?_⟩
  · rw [e, hp, Nat.add_mul, Nat.mul_assoc, Nat.mul_add]; omega
  · rw [e]
    have e2 : ((c * 2 ^ (39 - k) : Nat) : Int) + ((2 ^ (38 - k) : Nat) : Int) + ((2 ^ (38 - k) : Nat) : Int) = ((c * 2 ^ (39 - k) : Nat) : Int) + ((2 ^ (39 - k) : Nat) : Int) := by rw [Int.add_assoc, ← Int.natCast_add, ← hp]
    rw [e2]; exact h2
theorem SqI.no {S ρ : Int} {k : Nat} (hk : k < 39) (x : SqI S ρ k) (h : S < (ρ + ((2 ^ (38 - k) : Nat) : Int)) * (ρ + ((2 ^ (38 - k) : Nat) : Int))) : SqI S ρ (k + 1) := by
  obtain ⟨c, rfl, hc, h1, h2⟩ := x
  have hp : 2 ^ (39 - k) = 2 ^ (38 - k) + 2 ^ (38 - k) := by rw [show 39 - k = (38 - k) + 1 by omega, Nat.pow_succ]; omega
  have e : 39 - (k + 1) = 38 - k := by omega
  refine ⟨2 * c, ?_, by rw [Nat.pow_succ]; omega, h1, ?_⟩
  · rw [e, hp, Nat.mul_assoc, Nat.mul_add]; omega
  · rw [e]; exact h
end Go.Proofs.YtdhahiodnmmkeaaGreatDoor
