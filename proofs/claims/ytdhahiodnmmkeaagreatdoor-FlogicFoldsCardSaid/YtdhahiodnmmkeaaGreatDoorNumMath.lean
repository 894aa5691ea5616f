/- Plain arithmetic of numbers of 64 bits: what exact results come to, and signs of bit operations. No program in sight. -/
import Derived.WalkKit
import Derived.Laws.BitsAllLaws
import Derived.OpenShut
namespace Go.Proofs.YtdhahiodnmmkeaaGreatDoor
open Go.RowKit

/-- An exact result in the range of the numbers, else 0. -/
def resV (z : Int) : Int := if -9223372036854775808 < z ∧ z < 9223372036854775808 then z else 0
/-- Whether an exact result is in the range of the numbers. -/
def resB (z : Int) : Bool := decide (-9223372036854775808 < z ∧ z < 9223372036854775808)

/-- The bounds of an int64. -/
def InI (a : Int) : Prop := -9223372036854775808 ≤ a ∧ a ≤ 9223372036854775807
/-- The bounds of a uint64. -/
def InU (a : Int) : Prop := 0 ≤ a ∧ a ≤ 18446744073709551615

theorem wrap64_range (n : Int) : InI (wrap64 n) := by unfold InI wrap64; omega

theorem wrap_toNat (x : BitVec 64) : IntKind.i64.wrap (x.toNat : Int) = x.toInt := by
  have h := x.isLt
  rw [BitVec.toInt_eq_toNat_cond]
  simp [IntKind.wrap, IntKind.bits, IntKind.signed]
  split <;> omega

theorem i64_xor (a b : Int) : bits .xor .i64 a b = (BitVec.ofInt 64 a ^^^ BitVec.ofInt 64 b).toInt := by
  unfold bits; exact wrap_toNat _
theorem i64_and (a b : Int) : bits .and .i64 a b = (BitVec.ofInt 64 a &&& BitVec.ofInt 64 b).toInt := by
  unfold bits; exact wrap_toNat _

theorem msb_ofInt {a : Int} (h : InI a) : (BitVec.ofInt 64 a).msb = decide (a < 0) := by
  rw [BitVec.msb_eq_toInt, BitVec.toInt_ofInt]
  unfold InI at h
  congr 1
  have : a.bmod (2^64) = a := by
    rw [Int.bmod_def]; split <;> omega
  rw [this]

theorem neg_and_xor {a b s : Int} (ha : InI a) (hb : InI b) (hs : InI s) :
    decide (bits .and .i64 (bits .xor .i64 a s) (bits .xor .i64 b s) < 0) = (decide (a < 0) != decide (s < 0) && decide (b < 0) != decide (s < 0)) := by
  rw [i64_and, i64_xor, i64_xor, BitVec.ofInt_toInt, BitVec.ofInt_toInt]
  rw [← BitVec.msb_eq_toInt]
  simp only [BitVec.msb_and, BitVec.msb_xor, msb_ofInt ha, msb_ofInt hb, msb_ofInt hs]

/-- Whether an exact result is an int64. -/
def exI (z : Int) : Bool := decide (-9223372036854775808 ≤ z ∧ z ≤ 9223372036854775807)
/-- Addition: the overflow test. -/
theorem add_over {a b : Int} (ha : InI a) (hb : InI b) :
    (!decide (bits .and .i64 (bits .xor .i64 a (wrap64 (a + b))) (bits .xor .i64 b (wrap64 (a + b))) < 0)) = exI (a + b) := by
  rw [neg_and_xor ha hb (wrap64_range _)]
  unfold exI InI wrap64 at *
  by_cases h1 : a < 0 <;> by_cases h2 : b < 0 <;> (rw [Bool.eq_iff_iff]; simp [h1, h2]; omega)
/-- Two words of 64 bits hold a number of 128 bits. -/
def IsW (h l n : Int) : Prop := InU h ∧ InU l ∧ h * 18446744073709551616 + l = n
theorem IsW.bd {h l n : Int} (x : IsW h l n) : 0 ≤ n ∧ n < 340282366920938463463374607431768211456 := by
  unfold IsW InU at x; omega
theorem IsW.zero : IsW 0 0 0 := by unfold IsW InU; omega
theorem wrap_u64 (n : Int) : IntKind.u64.wrap n = n % 18446744073709551616 := IntKind.wrap_u64 n

theorem IsW.big {a b n : Int} (x : IsW a b n) (h : ¬ a = 0) : 18446744073709551616 ≤ n := by unfold IsW InU at x; omega

/-- A signed number with this distance from 0. -/
def sg (n : Int) (neg : Bool) : Int := if neg then -n else n

/-- What is returned of a sum that was computed exactly, or not. -/
def irV (a : Int) (x : Bool) : Int := if x = true ∧ a ≠ -9223372036854775808 then a else 0
def irB (a : Int) (x : Bool) : Bool := x && decide (a ≠ -9223372036854775808)
theorem irV_f (a : Int) : irV a false = 0 := by simp [irV]
theorem irB_f (a : Int) : irB a false = false := by simp [irB]
theorem irV_m {a : Int} (h : (a == -9223372036854775808) = true) : irV a true = 0 := by simp at h; simp [irV, h]
theorem irB_m {a : Int} (h : (a == -9223372036854775808) = true) : irB a true = false := by simp at h; simp [irB, h]
theorem irV_t {a : Int} (h : (a == -9223372036854775808) = false) : irV a true = a := by simp at h; simp [irV, h]
theorem irB_t {a : Int} (h : (a == -9223372036854775808) = false) : irB a true = true := by simp at h; simp [irB, h]
theorem add_fin {a b : Int} (_ha : InI a) (_hb : InI b) :
    irV (wrap64 (a + b)) (exI (a + b)) = resV (a + b) ∧
    irB (wrap64 (a + b)) (exI (a + b)) = resB (a + b) := by
  unfold exI resV resB InI irV irB wrap64 at *
  constructor
  · simp only [decide_eq_true_eq]; split <;> split <;> omega
  · rw [Bool.eq_iff_iff]; simp; omega
theorem retIB {k : IntKind} {a a' : Int} {b b' : Bool} (h1 : a = a') (h2 : b = b') : Ending.returned (.tuple #[.int k a, .bool b]) = .returned (.tuple #[.int k a', .bool b']) := by rw [h1, h2]
theorem retI {k : IntKind} {a a' : Int} (h1 : a = a') : Ending.returned (.int k a) = .returned (.int k a') := by rw [h1]
theorem retB {b b' : Bool} (h2 : b = b') : Ending.returned (.bool b) = .returned (.bool b') := by rw [h2]
end Go.Proofs.YtdhahiodnmmkeaaGreatDoor
