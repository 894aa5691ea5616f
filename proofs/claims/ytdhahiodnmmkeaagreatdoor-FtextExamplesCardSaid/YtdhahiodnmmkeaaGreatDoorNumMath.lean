/- Plain arithmetic of numbers of 64 bits: what exact results come to, and signs of bit operations. No program in sight. -/
import Derived.WalkKit
import Derived.Laws.BitsAllLaws
import Derived.OpenShut
namespace Go.Proofs.YtdhahiodnmmkeaaGreatDoor
open Go.RowKit
def resV (z : Int) : Int := if -9223372036854775808 < z ∧ z < 9223372036854775808 then z else 0
def resB (z : Int) : Bool := decide (-9223372036854775808 < z ∧ z < 9223372036854775808)
def InI (a : Int) : Prop := -9223372036854775808 ≤ a ∧ a ≤ 9223372036854775807
def InU (a : Int) : Prop := 0 ≤ a ∧ a ≤ 18446744073709551615
theorem zm9 (n : Int) : InI (wrap64 n) := by unfold InI wrap64; omega
theorem zkp (x : BitVec 64) : IntKind.i64.wrap (x.toNat : Int) = x.toInt := by
 have h := x.isLt
 rw [BitVec.toInt_eq_toNat_cond]
 simp [IntKind.wrap, IntKind.bits, IntKind.signed]
 split <;> omega
theorem zv7 (a b : Int) : bits .xor .i64 a b = (BitVec.ofInt 64 a ^^^ BitVec.ofInt 64 b).toInt := by
 unfold bits; exact zkp _
theorem yd8 (a b : Int) : bits .and .i64 a b = (BitVec.ofInt 64 a &&& BitVec.ofInt 64 b).toInt := by
 unfold bits; exact zkp _
theorem zje {a : Int} (h : InI a) : (BitVec.ofInt 64 a).msb = decide (a < 0) := by
 rw [BitVec.msb_eq_toInt, BitVec.toInt_ofInt]
 unfold InI at h
 congr 1
 have : a.bmod (2^64) = a := by
  rw [Int.bmod_def]; split <;> omega
 rw [this]
theorem zpi {a b s : Int} (ha : InI a) (hb : InI b) (hs : InI s) :
 decide (bits .and .i64 (bits .xor .i64 a s) (bits .xor .i64 b s) < 0) = (decide (a < 0) != decide (s < 0) && decide (b < 0) != decide (s < 0)) := by
 rw [yd8, zv7, zv7, BitVec.ofInt_toInt, BitVec.ofInt_toInt]
 rw [← BitVec.msb_eq_toInt]
 simp only [BitVec.msb_and, BitVec.msb_xor, zje ha, zje hb, zje hs]
def exI (z : Int) : Bool := decide (-9223372036854775808 ≤ z ∧ z ≤ 9223372036854775807)
theorem zzv {a b : Int} (ha : InI a) (hb : InI b) :
 (!decide (bits .and .i64 (bits .xor .i64 a (wrap64 (a + b))) (bits .xor .i64 b (wrap64 (a + b))) < 0)) = exI (a + b) := by
 rw [zpi ha hb (zm9 _)]
 unfold exI InI wrap64 at *
 by_cases h1 : a < 0 <;> by_cases h2 : b < 0 <;> (rw [Bool.eq_iff_iff]; simp [h1, h2]; omega)
def IsW (h l n : Int) : Prop := InU h ∧ InU l ∧ h * 18446744073709551616 + l = n
theorem IsW.bd {h l n : Int} (x : IsW h l n) : 0 ≤ n ∧ n < 340282366920938463463374607431768211456 := by
 unfold IsW InU at x; omega
theorem IsW.zero : IsW 0 0 0 := by unfold IsW InU; omega
theorem IsW.low {l : Int} (h : InU l) : IsW 0 l l := by unfold IsW InU at *; omega
theorem wrap_u64 (n : Int) : IntKind.u64.wrap n = n % 18446744073709551616 := IntKind.wrap_u64 n
theorem IsW.plus1 {a b c d n m : Int} (x : IsW a b n) (y : IsW c d m) (hs : n + m < 340282366920938463463374607431768211456) (h : IntKind.u64.wrap (b + d) < b) :
 IsW (IntKind.u64.wrap (IntKind.u64.wrap (a + c) + 1)) (IntKind.u64.wrap (b + d)) (n + m) := by
 simp only [wrap_u64] at *; unfold IsW InU at *; omega
theorem IsW.plus2 {a b c d n m : Int} (x : IsW a b n) (y : IsW c d m) (hs : n + m < 340282366920938463463374607431768211456) (h : b ≤ IntKind.u64.wrap (b + d)) :
 IsW (IntKind.u64.wrap (a + c)) (IntKind.u64.wrap (b + d)) (n + m) := by
 simp only [wrap_u64] at *; unfold IsW InU at *; omega
theorem IsW.lowV {b n : Int} (x : IsW 0 b n) : b = n := by unfold IsW at x; omega
theorem IsW.big {a b n : Int} (x : IsW a b n) (h : ¬ a = 0) : 18446744073709551616 ≤ n := by unfold IsW InU at x; omega
def sg (n : Int) (neg : Bool) : Int := if neg then -n else n
def irV (a : Int) (x : Bool) : Int := if x = true ∧ a ≠ -9223372036854775808 then a else 0
def irB (a : Int) (x : Bool) : Bool := x && decide (a ≠ -9223372036854775808)
theorem yh1 (a : Int) : irV a false = 0 := by simp [irV]
theorem yh4 (a : Int) : irB a false = false := by simp [irB]
theorem yh0 {a : Int} (h : (a == -9223372036854775808) = true) : irV a true = 0 := by simp at h; simp [irV, h]
theorem yh3 {a : Int} (h : (a == -9223372036854775808) = true) : irB a true = false := by simp at h; simp [irB, h]
theorem yhz {a : Int} (h : (a == -9223372036854775808) = false) : irV a true = a := by simp at h; simp [irV, h]
theorem yh2 {a : Int} (h : (a == -9223372036854775808) = false) : irB a true = true := by simp at h; simp [irB, h]
theorem zw8 {a b : Int} (_ha : InI a) (_hb : InI b) :
 irV (wrap64 (a + b)) (exI (a + b)) = resV (a + b) ∧
 irB (wrap64 (a + b)) (exI (a + b)) = resB (a + b) := by
 unfold exI resV resB InI irV irB wrap64 at *
 constructor
 · simp only [decide_eq_true_eq]; split <;> split <;> omega
 · rw [Bool.eq_iff_iff]; simp; omega
def zeh (a : Int) : Int := if a < 0 then -a else a
theorem ze5 {z : Int} (h : -9223372036854775807 ≤ z ∧ z ≤ 9223372036854775807) : resV z = z := by unfold resV; rw [if_pos (by omega)]
theorem ze6 {z : Int} (h : -9223372036854775807 ≤ z ∧ z ≤ 9223372036854775807) : resB z = true := by unfold resB; rw [decide_eq_true_eq]; omega
theorem zz7 {z : Int} (h : z ≤ -9223372036854775808 ∨ 9223372036854775808 ≤ z) : resV z = 0 := by unfold resV; rw [if_neg (by omega)]
theorem ze7 {z : Int} (h : z ≤ -9223372036854775808 ∨ 9223372036854775808 ≤ z) : resB z = false := by unfold resB; rw [decide_eq_false_iff_not]; omega
theorem ydj {k : IntKind} {a a' : Int} {b b' : Bool} (h1 : a = a') (h2 : b = b') : Ending.returned (.tuple #[.int k a, .bool b]) = .returned (.tuple #[.int k a', .bool b']) := by rw [h1, h2]
theorem retI {k : IntKind} {a a' : Int} (h1 : a = a') : Ending.returned (.int k a) = .returned (.int k a') := by rw [h1]
theorem retB {b b' : Bool} (h2 : b = b') : Ending.returned (.bool b) = .returned (.bool b') := by rw [h2]
end Go.Proofs.YtdhahiodnmmkeaaGreatDoor
