/- Contracts of math/bits (Mul64, Add64, Len64, LeadingZeros64) at this program. -/
import Derived.Test.YtoeodfbmiiefkaaGreatDoorDecA
import Derived.Laws.MathBits
import Derived.Laws.Externs
namespace Go.Proofs.YtoeodfbmiiefkaaGreatDoor
open Go.RowKit

theorem mul_hi_eq {x y : Int} (hx0 : 0 ≤ x) (hx : x < 18446744073709551616) (hy0 : 0 ≤ y) (hy : y < 18446744073709551616) :
    IntKind.u64.wrap (IntKind.u64.wrap (IntKind.u64.wrap (x / 4294967296 * (y / 4294967296)) +
      IntKind.u64.wrap (IntKind.u64.wrap (x / 4294967296 * bits BinOp.and IntKind.u64 y 4294967295) + IntKind.u64.wrap (bits BinOp.and IntKind.u64 x 4294967295 * bits BinOp.and IntKind.u64 y 4294967295) / 4294967296) / 4294967296) +
      IntKind.u64.wrap (bits BinOp.and IntKind.u64 (IntKind.u64.wrap (IntKind.u64.wrap (x / 4294967296 * bits BinOp.and IntKind.u64 y 4294967295) + IntKind.u64.wrap (bits BinOp.and IntKind.u64 x 4294967295 * bits BinOp.and IntKind.u64 y 4294967295) / 4294967296)) 4294967295 +
        IntKind.u64.wrap (bits BinOp.and IntKind.u64 x 4294967295 * (y / 4294967296))) / 4294967296) = x * y / 18446744073709551616 := by
  rw [← mul64_arith x y hx0 hx hy0 hy]
  simp only [wrap_u64]
  rw [and_low32 x hx0 hx, and_low32 y hy0 hy, and_low32 _ (by omega) (by omega)]
theorem len_up (x : Int) (b : Nat) (y : Int) (h0 : 0 ≤ x) (hy : y = x / ((2 ^ b : Nat) : Int)) (h1 : 1 ≤ y) : (bitLen x.toNat : Int) = b + bitLen y.toNat := by
  obtain ⟨n, rfl⟩ := Int.eq_ofNat_of_zero_le h0
  subst hy
  have e : ((n : Int) / ((2 ^ b : Nat) : Int)).toNat = n / 2 ^ b := by rw [show ((n : Int) / ((2 ^ b : Nat) : Int)) = ((n / 2 ^ b : Nat) : Int) from (Int.natCast_ediv _ _).symm]; exact Int.toNat_natCast _
  rw [e]
  rw [Int.toNat_natCast, bitLen_shift n b (by intro h; rw [← Int.natCast_ediv, h] at h1; simp at h1)]
  omega
theorem len_fin {k x y : Int} (hk : 0 ≤ k ∧ k ≤ 56) (hy : y.toNat < 256) (h : (bitLen x.toNat : Int) = k + bitLen y.toNat) : wrap64 (k + wrap64 ↑(bitLen y.toNat)) = ↑(bitLen x.toNat) := by
  have := bitLen_le8 _ hy
  unfold wrap64; omega
theorem len_fin0 {x : Int} (hy : x.toNat < 256) : wrap64 (wrap64 ↑(bitLen x.toNat)) = ↑(bitLen x.toNat) := by
  have := bitLen_le8 _ hy
  unfold wrap64; omega
set_option maxRecDepth 100000 in
set_option maxHeartbeats 1600000 in
theorem len64_any (x : Int) (hx0 : 0 ≤ x) (hx : x ≤ 18446744073709551615) (w : World) :
    Calls Tryz.prog 167 #[.int .u64 x] w fun e w' => e = .returned (.int .i64 (bitLen x.toNat)) ∧ w = w' := by
  go_enter Tryz.func167, Tryz.ntmps167
  go_wp2
  all_goals
    go_ret
    refine ⟨retI ?_, rfl⟩
    simp only [len8tab_get]
  · exact len_fin (by omega) (by omega) (len_up x 56 _ hx0 (by omega) (by omega))
  · exact len_fin (by omega) (by omega) (len_up x 48 _ hx0 (by omega) (by omega))
  · exact len_fin (by omega) (by omega) (len_up x 40 _ hx0 (by omega) (by omega))
  · exact len_fin (by omega) (by omega) (len_up x 32 _ hx0 (by omega) (by omega))
  · exact len_fin (by omega) (by omega) (len_up x 24 _ hx0 (by omega) (by omega))
  · exact len_fin (by omega) (by omega) (len_up x 16 _ hx0 (by omega) (by omega))
  · exact len_fin (by omega) (by omega) (len_up x 8 _ hx0 (by omega) (by omega))
  · exact len_fin0 (by omega)
set_option maxHeartbeats 400000 in
theorem dsize_any (a : Int) (ha : InI a) (w : World) :
    Calls Tryz.prog 131 #[.int .i64 a] w fun e w' => e = .returned (.int .u64 (sizeOf' a)) ∧ w = w' := by
  unfold InI at ha
  obtain ⟨h1, h2⟩ := ha
  by_cases h : a < 0
  · go_enter Tryz.func131, Tryz.ntmps131
    go_wp2
    go_ret
    exact ⟨retI (by unfold sizeOf'; rw [if_pos h]; simp only [wrap_u64]; omega), rfl⟩
  · go_enter Tryz.func131, Tryz.ntmps131
    go_wp2
    go_ret
    exact ⟨retI (by unfold sizeOf'; rw [if_neg (by omega)]), rfl⟩
end Go.Proofs.YtoeodfbmiiefkaaGreatDoor
