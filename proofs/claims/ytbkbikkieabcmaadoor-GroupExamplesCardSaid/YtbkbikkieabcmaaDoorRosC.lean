/- Contract of group.Of. -/
import Derived.Test.YtbkbikkieabcmaaDoorBitA
import Derived.RegionTactic
namespace Go.Proofs.YtbkbikkieabcmaaDoor
open Go.RowKit
/-- A slice of users. -/
def IsI (w : World) (a : Option Addr) (len : Nat) (L : List Nat) : Prop := L.length = len ∧ (0 < len → ∃ x, a = some x ∧ x.block < w.heap.size ∧ ∀ (i u : Nat), L[i]? = some u → w.cell? (x.add i) = some (.int .i64 (u : Int)))
def orL (L : List Nat) : W64 := L.foldl (fun s u => s ||| (1#64 <<< u)) 0#64
theorem orL_snoc (L : List Nat) (u : Nat) : orL (L ++ [u]) = orL L ||| (1#64 <<< u) := by unfold orL; rw [List.foldl_append]; rfl
theorem shl_one (y : Nat) : IntKind.u64.wrap ((2 : Int) ^ y) = ((1#64 <<< y).toNat : Int) := by
  rw [BitVec.toNat_shiftLeft]
  simp [IntKind.wrap, IntKind.bits, IntKind.signed, Nat.shiftLeft_eq]
set_option maxHeartbeats 800000 in
theorem of_any (a : Option Addr) (len cap : Nat) (L : List Nat) (w : World) (hm : len ≤ maxLen) (hL : IsI w a len L) (hb : ∀ u ∈ L, u < 64) :
    Calls Tryd.prog 21 #[.slice a len cap] w fun e w' => e = .returned (.tuple #[.int .u64 ((orL L).toNat : Int), .int .i64 0]) ∧ w = w' := by
  unfold maxLen at hm
  obtain ⟨hlen, hc⟩ := hL
  have HL := Lib.hid hlen
  have HC := Lib.hid hc
  have HB := Lib.hid hb
  clear hlen hc hb
  go_enter Tryd.func21, Tryd.ntmps21
  go_wp2_with fail
  go_loop [4, 9] (fun s i => ∃ k : Nat, k ≤ len ∧ i = .int .i64 k ∧ s = .int .u64 ((orL (L.take k)).toNat : Int)) (fun _ i => len - (intOf i).toNat)
  case atStart => exact ⟨0, Nat.zero_le _, rfl, rfl⟩
  case round =>
    obtain ⟨k, hk, rfl, rfl⟩ := hrel
    by_cases hlt : k < len
    · obtain ⟨x, rfl, hx, hcell⟩ := HC.out (by omega)
      have hkL : k < L.length := by rw [HL.out]; exact hlt
      have c1 := hcell k _ (List.getElem?_eq_getElem hkL)
      have hu := HB.out _ (List.getElem_mem hkL)
      have HN : Hid (orL (L.take (k + 1)) = orL (L.take k) ||| (1#64 <<< L[k])) := by unfold Hid; rw [List.take_succ_eq_append_getElem hkL, orL_snoc]
      clear hcell
      generalize L[k] = y at *
      generalize orL (L.take k) = s at *
      have hv := vld_t (u := (y : Int)) ⟨by omega, by omega⟩
      go_wp2_with fail
      refine (valid_any _ _).mono ?_
      rintro e w' ⟨rfl, rfl⟩
      rw [hv]
      go_wp2_with fail
      go_round
      case rel => exact ⟨k + 1, by omega, by go_num, by rw [HN.out, ← bits_or, ← shl_one]⟩
      case measure => simp [intOf]; omega
    · obtain rfl : k = len := by omega
      have HT : Hid (L.take k = L) := List.take_of_length_le (by rw [HL.out]; exact Nat.le_refl _)
      go_wp2_with fail
      go_ret2
      exact ⟨by rw [HT.out]; rfl, rfl⟩
end Go.Proofs.YtbkbikkieabcmaaDoor
