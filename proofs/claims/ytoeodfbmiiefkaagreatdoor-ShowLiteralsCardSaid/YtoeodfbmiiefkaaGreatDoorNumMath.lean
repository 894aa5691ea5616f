/- Plain arithmetic of numbers of 64 bits: what exact results come to, and signs of bit operations. No program in sight. -/
import Derived.WalkKit
import Derived.Laws.BitsAllLaws
import Derived.OpenShut
namespace Go.Proofs.YtoeodfbmiiefkaaGreatDoor
open Go.RowKit

/-- An exact result in the range of the numbers, else 0. -/
def resV (z : Int) : Int := if -9223372036854775808 < z ∧ z < 9223372036854775808 then z else 0
/-- Whether an exact result is in the range of the numbers. -/
def resB (z : Int) : Bool := decide (-9223372036854775808 < z ∧ z < 9223372036854775808)

/-- The bounds of an int64. -/
def InI (a : Int) : Prop := -9223372036854775808 ≤ a ∧ a ≤ 9223372036854775807
/-- The bounds of a uint64. -/
def InU (a : Int) : Prop := 0 ≤ a ∧ a ≤ 18446744073709551615

theorem inI_of_wf {a : Int} (h : (Lit.int .i64 a).wf = true) : InI a := by
  have := bounds_i64 h; unfold InI; omega

theorem wrap64_range (n : Int) : InI (wrap64 n) := by unfold InI wrap64; omega

theorem wrap_toNat (x : BitVec 64) : IntKind.i64.wrap (x.toNat : Int) = x.toInt := by
  have h := x.isLt
  rw [BitVec.toInt_eq_toNat_cond]
  simp [IntKind.wrap, IntKind.bits, IntKind.signed]
  split <;> omega

theorem i64_xor (a b : Int) : bits .xor .i64 a b = (BitVec.ofInt 64 a ^^^ BitVec.ofInt 64 b).toInt := by
  unfold bits; exact wrap_toNat _
theorem i64_and (a b : Int) : bits .and .i64 a b = (BitVec.ofInt 64 a &&& BitVec.ofInt 64 b).toInt := by
  unfold bits; exact wrap_toNat _

theorem msb_ofInt {a : Int} (h : InI a) : (BitVec.ofInt 64 a).msb = decide (a < 0) := by
  rw [BitVec.msb_eq_toInt, BitVec.toInt_ofInt]
  unfold InI at h
  congr 1
  have : a.bmod (2^64) = a := by
    rw [Int.bmod_def]; split <;> omega
  rw [this]

theorem neg_and_xor {a b s : Int} (ha : InI a) (hb : InI b) (hs : InI s) :
    decide (bits .and .i64 (bits .xor .i64 a s) (bits .xor .i64 b s) < 0) = (decide (a < 0) != decide (s < 0) && decide (b < 0) != decide (s < 0)) := by
  rw [i64_and, i64_xor, i64_xor, BitVec.ofInt_toInt, BitVec.ofInt_toInt]
  rw [← BitVec.msb_eq_toInt]
  simp only [BitVec.msb_and, BitVec.msb_xor, msb_ofInt ha, msb_ofInt hb, msb_ofInt hs]

/-- Whether an exact result is an int64. -/
def exI (z : Int) : Bool := decide (-9223372036854775808 ≤ z ∧ z ≤ 9223372036854775807)
/-- Addition: the overflow test. -/
theorem add_over {a b : Int} (ha : InI a) (hb : InI b) :
    (!decide (bits .and .i64 (bits .xor .i64 a (wrap64 (a + b))) (bits .xor .i64 b (wrap64 (a + b))) < 0)) = exI (a + b) := by
  rw [neg_and_xor ha hb (wrap64_range _)]
  unfold exI InI wrap64 at *
  by_cases h1 : a < 0 <;> by_cases h2 : b < 0 <;> (rw [Bool.eq_iff_iff]; simp [h1, h2]; omega)
/-- Subtraction: the overflow test. -/
theorem sub_over {a b : Int} (ha : InI a) (hb : InI b) :
    (!decide (bits .and .i64 (bits .xor .i64 a b) (bits .xor .i64 a (wrap64 (a - b))) < 0)) = exI (a - b) := by
  have e : decide (bits .and .i64 (bits .xor .i64 a b) (bits .xor .i64 a (wrap64 (a - b))) < 0) = (decide (a < 0) != decide (b < 0) && decide (a < 0) != decide (wrap64 (a - b) < 0)) := by
    rw [i64_and, i64_xor, i64_xor, BitVec.ofInt_toInt, BitVec.ofInt_toInt]
    rw [← BitVec.msb_eq_toInt]
    simp only [BitVec.msb_and, BitVec.msb_xor, msb_ofInt ha, msb_ofInt hb, msb_ofInt (wrap64_range _)]
  rw [e]
  unfold exI InI wrap64 at *
  by_cases h1 : a < 0 <;> by_cases h2 : b < 0 <;> (rw [Bool.eq_iff_iff]; simp [h1, h2]; omega)

/-- Two words of 64 bits hold a number of 128 bits. -/
def IsW (h l n : Int) : Prop := InU h ∧ InU l ∧ h * 18446744073709551616 + l = n
theorem IsW.bd {h l n : Int} (x : IsW h l n) : 0 ≤ n ∧ n < 340282366920938463463374607431768211456 := by
  unfold IsW InU at x; omega
theorem IsW.zero : IsW 0 0 0 := by unfold IsW InU; omega
theorem IsW.low {l : Int} (h : InU l) : IsW 0 l l := by unfold IsW InU at *; omega
theorem wrap_u64 (n : Int) : IntKind.u64.wrap n = n % 18446744073709551616 := IntKind.wrap_u64 n

theorem IsW.plus1 {a b c d n m : Int} (x : IsW a b n) (y : IsW c d m) (hs : n + m < 340282366920938463463374607431768211456) (h : IntKind.u64.wrap (b + d) < b) :
    IsW (IntKind.u64.wrap (IntKind.u64.wrap (a + c) + 1)) (IntKind.u64.wrap (b + d)) (n + m) := by
  simp only [wrap_u64] at *; unfold IsW InU at *; omega
theorem IsW.plus2 {a b c d n m : Int} (x : IsW a b n) (y : IsW c d m) (hs : n + m < 340282366920938463463374607431768211456) (h : b ≤ IntKind.u64.wrap (b + d)) :
    IsW (IntKind.u64.wrap (a + c)) (IntKind.u64.wrap (b + d)) (n + m) := by
  simp only [wrap_u64] at *; unfold IsW InU at *; omega
theorem IsW.minus1 {a b c d n m : Int} (x : IsW a b n) (y : IsW c d m) (hs : m ≤ n) (h : b < d) :
    IsW (IntKind.u64.wrap (IntKind.u64.wrap (a - c) - 1)) (IntKind.u64.wrap (b - d)) (n - m) := by
  simp only [wrap_u64] at *; unfold IsW InU at *; omega
theorem IsW.minus2 {a b c d n m : Int} (x : IsW a b n) (y : IsW c d m) (hs : m ≤ n) (h : d ≤ b) :
    IsW (IntKind.u64.wrap (a - c)) (IntKind.u64.wrap (b - d)) (n - m) := by
  simp only [wrap_u64] at *; unfold IsW InU at *; omega
theorem IsW.less1 {a b c d n m : Int} (x : IsW a b n) (y : IsW c d m) (h : a < c) : n < m := by
  unfold IsW InU at *; omega
theorem IsW.less2 {b d n m a : Int} (x : IsW a b n) (y : IsW a d m) : (n < m ↔ b < d) := by
  unfold IsW InU at *; omega
theorem IsW.less3 {a b c d n m : Int} (x : IsW a b n) (y : IsW c d m) (h : c ≤ a) (h2 : ¬ a = c) : ¬ n < m := by
  unfold IsW InU at *; omega
theorem IsW.lowV {b n : Int} (x : IsW 0 b n) : b = n := by unfold IsW at x; omega
theorem IsW.big {a b n : Int} (x : IsW a b n) (h : ¬ a = 0) : 18446744073709551616 ≤ n := by unfold IsW InU at x; omega

/-- A signed number with this distance from 0. -/
def sg (n : Int) (neg : Bool) : Int := if neg then -n else n

/-- What is returned of a sum that was computed exactly, or not. -/
def irV (a : Int) (x : Bool) : Int := if x = true ∧ a ≠ -9223372036854775808 then a else 0
def irB (a : Int) (x : Bool) : Bool := x && decide (a ≠ -9223372036854775808)
theorem irV_f (a : Int) : irV a false = 0 := by simp [irV]
theorem irB_f (a : Int) : irB a false = false := by simp [irB]
theorem irV_m {a : Int} (h : (a == -9223372036854775808) = true) : irV a true = 0 := by simp at h; simp [irV, h]
theorem irB_m {a : Int} (h : (a == -9223372036854775808) = true) : irB a true = false := by simp at h; simp [irB, h]
theorem irV_t {a : Int} (h : (a == -9223372036854775808) = false) : irV a true = a := by simp at h; simp [irV, h]
theorem irB_t {a : Int} (h : (a == -9223372036854775808) = false) : irB a true = true := by simp at h; simp [irB, h]
theorem add_fin {a b : Int} (_ha : InI a) (_hb : InI b) :
    irV (wrap64 (a + b)) (exI (a + b)) = resV (a + b) ∧
    irB (wrap64 (a + b)) (exI (a + b)) = resB (a + b) := by
  unfold exI resV resB InI irV irB wrap64 at *
  constructor
  · simp only [decide_eq_true_eq]; split <;> split <;> omega
  · rw [Bool.eq_iff_iff]; simp; omega
theorem sub_fin {a b : Int} (_ha : InI a) (_hb : InI b) :
    irV (wrap64 (a - b)) (exI (a - b)) = resV (a - b) ∧
    irB (wrap64 (a - b)) (exI (a - b)) = resB (a - b) := by
  unfold exI resV resB InI irV irB wrap64 at *
  constructor
  · simp only [decide_eq_true_eq]; split <;> split <;> omega
  · rw [Bool.eq_iff_iff]; simp; omega
/-- The distance of a number from 0. -/
def sizeOf' (a : Int) : Int := if a < 0 then -a else a
/-- n < m, as a bool that nothing opens. -/
def ltB (n m : Int) : Bool := decide (n < m)
theorem ltB_t {n m : Int} (h : n < m) : ltB n m = true := by simp [ltB, h]
theorem ltB_f {n m : Int} (h : ¬ n < m) : ltB n m = false := by simp [ltB]; omega
theorem resV_t {z : Int} (h : -9223372036854775807 ≤ z ∧ z ≤ 9223372036854775807) : resV z = z := by unfold resV; rw [if_pos (by omega)]
theorem resB_t {z : Int} (h : -9223372036854775807 ≤ z ∧ z ≤ 9223372036854775807) : resB z = true := by unfold resB; rw [decide_eq_true_eq]; omega
theorem resV_f {z : Int} (h : z ≤ -9223372036854775808 ∨ 9223372036854775808 ≤ z) : resV z = 0 := by unfold resV; rw [if_neg (by omega)]
theorem resB_f {z : Int} (h : z ≤ -9223372036854775808 ∨ 9223372036854775808 ≤ z) : resB z = false := by unfold resB; rw [decide_eq_false_iff_not]; omega
/-- The words of a number of 128 bits. -/
def hi64 (z : Int) : Int := z / 18446744073709551616
def lo64 (z : Int) : Int := z % 18446744073709551616
theorem retII {k : IntKind} {a a' b b' : Int} (h1 : a = a') (h2 : b = b') : Ending.returned (.tuple #[.int k a, .int k b]) = .returned (.tuple #[.int k a', .int k b']) := by rw [h1, h2]
theorem retIB {k : IntKind} {a a' : Int} {b b' : Bool} (h1 : a = a') (h2 : b = b') : Ending.returned (.tuple #[.int k a, .bool b]) = .returned (.tuple #[.int k a', .bool b']) := by rw [h1, h2]
theorem retI {k : IntKind} {a a' : Int} (h1 : a = a') : Ending.returned (.int k a) = .returned (.int k a') := by rw [h1]
theorem retB {b b' : Bool} (h2 : b = b') : Ending.returned (.bool b) = .returned (.bool b') := by rw [h2]
theorem size_bd' {a : Int} (h : InI a) : 0 ≤ sizeOf' a ∧ sizeOf' a ≤ 9223372036854775808 := by unfold InI sizeOf' at *; split <;> omega
theorem size_neg {a : Int} (h : InI a) (h0 : a < 0) : IntKind.u64.wrap (IntKind.u64.wrap (wrap64 (-wrap64 (a + 1))) + 1) = sizeOf' a := by
  unfold sizeOf' wrap64 InI at *; simp only [wrap_u64]; rw [if_pos h0]; omega
end Go.Proofs.YtoeodfbmiiefkaaGreatDoor
