/- Plain arithmetic of a division of 128 bits by 64 bits, digit by digit of 32 bits. No program in sight. -/
import Derived.Test.YtdhahiodnmmkeaaGreatDoorNumMath
import Derived.Laws.MathBits
namespace Go.Proofs.YtdhahiodnmmkeaaGreatDoor
open Go.RowKit

/-- The state of the estimate of a digit: q is at least the true digit, and r is what q leaves. -/
def Est (u yn1 yn0 un1 q r : Int) : Prop :=
  q * yn1 + r = u ∧ (u * 4294967296 + un1) / (yn1 * 4294967296 + yn0) ≤ q ∧ q ≤ 4294967297 ∧ 0 ≤ r ∧ 0 ≤ q
/-- A divisor with its high bit set, a dividend whose quotient is one digit. -/
def Nrm (u yn1 yn0 un1 : Int) : Prop :=
  2147483648 ≤ yn1 ∧ yn1 ≤ 4294967295 ∧ 0 ≤ yn0 ∧ yn0 ≤ 4294967295 ∧ 0 ≤ un1 ∧ un1 ≤ 4294967295 ∧ 0 ≤ u ∧ u < yn1 * 4294967296 + yn0
/-- The digit. -/
def dig (u yn1 yn0 un1 : Int) : Int := (u * 4294967296 + un1) / (yn1 * 4294967296 + yn0)

theorem Est.start {u yn1 yn0 un1 : Int} (n : Nrm u yn1 yn0 un1) : Est u yn1 yn0 un1 (u / yn1) (u - u / yn1 * yn1) ∧ u - u / yn1 * yn1 ≤ 4294967295 ∧ 0 ≤ u / yn1 * yn1 ∧ u / yn1 * yn1 ≤ u := by
  obtain ⟨a, b, c, d, e, f, g, h⟩ := n
  have hm := Int.emod_nonneg u (show yn1 ≠ 0 by omega)
  have hl := Int.emod_lt_of_pos u (show 0 < yn1 by omega)
  have he : u / yn1 * yn1 + u % yn1 = u := Int.ediv_mul_add_emod u yn1
  have hq : 0 ≤ u / yn1 := Int.ediv_nonneg g (by omega)
  have hp : 0 ≤ u / yn1 * yn1 := Int.mul_nonneg hq (by omega)
  refine ⟨⟨by omega, ?_, ?_, by omega, hq⟩, by omega, hp, by omega⟩
  · -- the true digit is at most u / yn1
    apply Int.le_of_lt_add_one
    apply Int.ediv_lt_of_lt_mul (by omega)
    have : (u / yn1 + 1) * (yn1 * 4294967296 + yn0) = (u / yn1 * yn1 + yn1) * 4294967296 + (u / yn1 + 1) * yn0 := by
      rw [Int.mul_add, ← Int.mul_assoc, Int.add_mul (u / yn1) 1 yn1, Int.one_mul]
    rw [this]
    have : 0 ≤ (u / yn1 + 1) * yn0 := Int.mul_nonneg (by omega) c
    omega
  · apply Int.le_of_lt_add_one
    apply Int.ediv_lt_of_lt_mul (by omega)
    omega
theorem Est.digit {u yn1 yn0 un1 q r : Int} (_n : Nrm u yn1 yn0 un1) (e : Est u yn1 yn0 un1 q r) :
    q * (yn1 * 4294967296 + yn0) = (u - r) * 4294967296 + q * yn0 := by
  have := e.1
  rw [Int.mul_add, ← Int.mul_assoc, show q * yn1 = u - r by omega]
theorem dig_lt {u yn1 yn0 un1 : Int} (n : Nrm u yn1 yn0 un1) : 0 ≤ dig u yn1 yn0 un1 ∧ dig u yn1 yn0 un1 ≤ 4294967295 := by
  obtain ⟨a, b, c, d, e, f, g, h⟩ := n
  unfold dig
  constructor
  · exact Int.ediv_nonneg (by omega) (by omega)
  · apply Int.le_of_lt_add_one
    apply Int.ediv_lt_of_lt_mul (by omega)
    omega
theorem Est.over {u yn1 yn0 un1 q r : Int} (n : Nrm u yn1 yn0 un1) (e : Est u yn1 yn0 un1 q r) (h : 4294967296 ≤ q) : Est u yn1 yn0 un1 (q - 1) (r + yn1) := by
  have hd := dig_lt n
  obtain ⟨a, b, c, d, f⟩ := e
  unfold dig at hd
  have := n.1
  exact ⟨by rw [Int.sub_mul]; omega, by omega, by omega, by omega, by omega⟩
theorem Est.more {u yn1 yn0 un1 q r : Int} (n : Nrm u yn1 yn0 un1) (e : Est u yn1 yn0 un1 q r) (h : 4294967296 * r + un1 < q * yn0) : Est u yn1 yn0 un1 (q - 1) (r + yn1) ∧ 1 ≤ q := by
  have hx := e.digit n
  obtain ⟨a, b, c, d, f⟩ := e
  have hlt : (u * 4294967296 + un1) / (yn1 * 4294967296 + yn0) < q := by
    apply Int.ediv_lt_of_lt_mul (by have := n.1; have := n.2.2.1; omega)
    rw [hx]; omega
  have h0 : 0 ≤ (u * 4294967296 + un1) / (yn1 * 4294967296 + yn0) := (dig_lt n).1
  have := n.1
  exact ⟨⟨by rw [Int.sub_mul]; omega, by omega, by omega, by omega, by omega⟩, by omega⟩
theorem Est.done {u yn1 yn0 un1 q r : Int} (n : Nrm u yn1 yn0 un1) (e : Est u yn1 yn0 un1 q r) (h : q * yn0 ≤ 4294967296 * r + un1) : q = dig u yn1 yn0 un1 := by
  have hx := e.digit n
  obtain ⟨a, b, c, d, f⟩ := e
  have : q ≤ (u * 4294967296 + un1) / (yn1 * 4294967296 + yn0) := by
    apply Int.le_ediv_of_mul_le (by have := n.1; have := n.2.2.1; omega)
    rw [hx]; omega
  unfold dig; omega
theorem Est.left {u yn1 yn0 un1 q r : Int} (n : Nrm u yn1 yn0 un1) (e : Est u yn1 yn0 un1 q r) (h : 4294967296 ≤ r) (hq : q ≤ 4294967296) : q = dig u yn1 yn0 un1 := by
  apply e.done n
  have h1 : q * yn0 ≤ 4294967296 * yn0 := Int.mul_le_mul_of_nonneg_right hq n.2.2.1
  have := n.2.2.2.1
  have := n.2.2.2.2.1
  omega
end Go.Proofs.YtdhahiodnmmkeaaGreatDoor
