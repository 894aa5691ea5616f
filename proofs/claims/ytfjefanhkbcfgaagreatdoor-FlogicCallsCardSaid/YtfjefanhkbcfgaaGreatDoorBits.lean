/- Contracts of math/bits (Mul64, Add64, Len64, LeadingZeros64) at this program. -/
import Derived.Test.YtfjefanhkbcfgaaGreatDoorDecA
import Derived.Laws.MathBits
import Derived.Laws.Externs
namespace Go.Proofs.YtfjefanhkbcfgaaGreatDoor
open Go.RowKit

theorem mul_hi_eq {x y : Int} (hx0 : 0 ≤ x) (hx : x < 18446744073709551616) (hy0 : 0 ≤ y) (hy : y < 18446744073709551616) :
    IntKind.u64.wrap (IntKind.u64.wrap (IntKind.u64.wrap (x / 4294967296 * (y / 4294967296)) +
      IntKind.u64.wrap (IntKind.u64.wrap (x / 4294967296 * bits BinOp.and IntKind.u64 y 4294967295) + IntKind.u64.wrap (bits BinOp.and IntKind.u64 x 4294967295 * bits BinOp.and IntKind.u64 y 4294967295) / 4294967296) / 4294967296) +
      IntKind.u64.wrap (bits BinOp.and IntKind.u64 (IntKind.u64.wrap (IntKind.u64.wrap (x / 4294967296 * bits BinOp.and IntKind.u64 y 4294967295) + IntKind.u64.wrap (bits BinOp.and IntKind.u64 x 4294967295 * bits BinOp.and IntKind.u64 y 4294967295) / 4294967296)) 4294967295 +
        IntKind.u64.wrap (bits BinOp.and IntKind.u64 x 4294967295 * (y / 4294967296))) / 4294967296) = x * y / 18446744073709551616 := by
  rw [← mul64_arith x y hx0 hx hy0 hy]
  simp only [wrap_u64]
  rw [and_low32 x hx0 hx, and_low32 y hy0 hy, and_low32 _ (by omega) (by omega)]
set_option maxHeartbeats 400000 in
theorem mul64_any (x y : Int) (hx0 : 0 ≤ x) (hx : x < 18446744073709551616) (hy0 : 0 ≤ y) (hy : y < 18446744073709551616) (w : World) :
    Calls Tryz.prog 141 #[.int .u64 x, .int .u64 y] w fun e w' => e = .returned (.tuple #[.int .u64 (hi64 (x * y)), .int .u64 (lo64 (x * y))]) ∧ w = w' := by
  have e1 := Lib.hid (mul_hi_eq hx0 hx hy0 hy)
  go_enter Tryz.func141, Tryz.ntmps141
  go_wp2
  go_ret2
  exact ⟨retII e1.out (wrap_u64 _), rfl⟩

/-- math/bits.Add64 without a carry: the model's own entry. -/
theorem add64_run (x y : Int) (hx0 : 0 ≤ x) (hy0 : 0 ≤ y) (w : World) :
    (callFunc 196 #[.int .u64 x, .int .u64 y, .int .u64 0]).run Tryz.prog w = .ok (.value (.tuple #[.int .u64 (lo64 (x + y)), .int .u64 (hi64 (x + y))])) w := by
  rw [run_callFunc_extern Tryz.func196 (by kernel_rfl) (by kernel_rfl) (by kernel_rfl) (e := add64Entry) (by kernel_rfl), run_add64 x y 0 hx0 hy0 (by omega) (by omega)]
  simp only [Result.andThen, Int.add_zero]
  rfl

theorem len_up (x : Int) (b : Nat) (y : Int) (h0 : 0 ≤ x) (hy : y = x / ((2 ^ b : Nat) : Int)) (h1 : 1 ≤ y) : (bitLen x.toNat : Int) = b + bitLen y.toNat := by
  obtain ⟨n, rfl⟩ := Int.eq_ofNat_of_zero_le h0
  subst hy
  have e : ((n : Int) / ((2 ^ b : Nat) : Int)).toNat = n / 2 ^ b := by rw [show ((n : Int) / ((2 ^ b : Nat) : Int)) = ((n / 2 ^ b : Nat) : Int) from (Int.natCast_ediv _ _).symm]; exact Int.toNat_natCast _
  rw [e]
  rw [Int.toNat_natCast, bitLen_shift n b (by intro h; rw [← Int.natCast_ediv, h] at h1; simp at h1)]
  omega
theorem len_fin {k x y : Int} (hk : 0 ≤ k ∧ k ≤ 56) (hy : y.toNat < 256) (h : (bitLen x.toNat : Int) = k + bitLen y.toNat) : wrap64 (k + wrap64 ↑(bitLen y.toNat)) = ↑(bitLen x.toNat) := by
  have := bitLen_le8 _ hy
  unfold wrap64; omega
theorem len_fin0 {x : Int} (hy : x.toNat < 256) : wrap64 (wrap64 ↑(bitLen x.toNat)) = ↑(bitLen x.toNat) := by
  have := bitLen_le8 _ hy
  unfold wrap64; omega
set_option maxRecDepth 100000 in
set_option maxHeartbeats 1600000 in
theorem len64_any (x : Int) (hx0 : 0 ≤ x) (hx : x ≤ 18446744073709551615) (w : World) :
    Calls Tryz.prog 245 #[.int .u64 x] w fun e w' => e = .returned (.int .i64 (bitLen x.toNat)) ∧ w = w' := by
  go_enter Tryz.func245, Tryz.ntmps245
  go_wp2
  all_goals
    go_ret
    refine ⟨retI ?_, rfl⟩
    simp only [len8tab_get]
  · exact len_fin (by omega) (by omega) (len_up x 56 _ hx0 (by omega) (by omega))
  · exact len_fin (by omega) (by omega) (len_up x 48 _ hx0 (by omega) (by omega))
  · exact len_fin (by omega) (by omega) (len_up x 40 _ hx0 (by omega) (by omega))
  · exact len_fin (by omega) (by omega) (len_up x 32 _ hx0 (by omega) (by omega))
  · exact len_fin (by omega) (by omega) (len_up x 24 _ hx0 (by omega) (by omega))
  · exact len_fin (by omega) (by omega) (len_up x 16 _ hx0 (by omega) (by omega))
  · exact len_fin (by omega) (by omega) (len_up x 8 _ hx0 (by omega) (by omega))
  · exact len_fin0 (by omega)
set_option maxHeartbeats 400000 in
theorem lz64_any (x : Int) (hx0 : 0 ≤ x) (hx : x ≤ 18446744073709551615) (w : World) :
    Calls Tryz.prog 222 #[.int .u64 x] w fun e w' => e = .returned (.int .i64 (64 - bitLen x.toNat)) ∧ w = w' := by
  have hb : bitLen x.toNat ≤ 64 := by
    have := (bitLen_spec x.toNat).2
    by_cases h : x.toNat = 0
    · simp [h, bitLen]
    · rcases Nat.lt_or_ge 64 (bitLen x.toNat) with h2 | h2
      · have h3 := this h
        have h4 : 2 ^ 64 ≤ 2 ^ (bitLen x.toNat - 1) := Nat.pow_le_pow_right (by omega) (by omega)
        omega
      · exact h2
  go_enter Tryz.func222, Tryz.ntmps222
  go_wp2_with fail
  refine (len64_any x hx0 hx _).mono ?_
  rintro e w' ⟨rfl, rfl⟩
  go_wp2
  go_ret
  exact ⟨rfl, rfl⟩

set_option maxHeartbeats 400000 in
theorem dsize_any (a : Int) (ha : InI a) (w : World) :
    Calls Tryz.prog 143 #[.int .i64 a] w fun e w' => e = .returned (.int .u64 (sizeOf' a)) ∧ w = w' := by
  unfold InI at ha
  obtain ⟨h1, h2⟩ := ha
  by_cases h : a < 0
  · go_enter Tryz.func143, Tryz.ntmps143
    go_wp2
    go_ret
    exact ⟨retI (by unfold sizeOf'; rw [if_pos h]; simp only [wrap_u64]; omega), rfl⟩
  · go_enter Tryz.func143, Tryz.ntmps143
    go_wp2
    go_ret
    exact ⟨retI (by unfold sizeOf'; rw [if_neg (by omega)]), rfl⟩
set_option maxHeartbeats 400000 in
theorem dsigned_any (n : Int) (h0 : 0 ≤ n) (h1 : n ≤ 18446744073709551615) (neg : Bool) (w : World) :
    Calls Tryz.prog 144 #[.int .u64 n, .bool neg] w fun e w' => e = .returned (.tuple #[.int .i64 (resV (sg n neg)), .bool (resB (sg n neg))]) ∧ w = w' := by
  by_cases h2 : n ≤ 9223372036854775807
  · cases neg
    · rw [resV_t (z := sg n false) (by simp [sg]; omega), resB_t (z := sg n false) (by simp [sg]; omega)]
      go_enter Tryz.func144, Tryz.ntmps144
      go_wp2
      go_ret2
      exact ⟨retIB (by simp [sg]) rfl, rfl⟩
    · rw [resV_t (z := sg n true) (by simp [sg]; omega), resB_t (z := sg n true) (by simp [sg]; omega)]
      go_enter Tryz.func144, Tryz.ntmps144
      go_wp2
      go_ret2
      exact ⟨retIB (by simp [sg]) rfl, rfl⟩
  · rw [resV_f (z := sg n neg) (by cases neg <;> simp [sg] <;> omega), resB_f (z := sg n neg) (by cases neg <;> simp [sg] <;> omega)]
    go_enter Tryz.func144, Tryz.ntmps144
    go_wp2
    go_ret2
    exact ⟨rfl, rfl⟩
end Go.Proofs.YtfjefanhkbcfgaaGreatDoor
