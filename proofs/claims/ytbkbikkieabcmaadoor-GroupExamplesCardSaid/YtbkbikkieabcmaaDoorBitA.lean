/- Sets of users as words of 64 bits: the runs of the operations, and the contracts of valid, Has and Meet. -/
import Derived.Test.YtbkbikkieabcmaaDoorProg
import Derived.WalkKit
import Derived.WalkSpells
import Derived.WalkLawsBesides
import Derived.Lib.Hide
import Derived.BigQuiet
import Derived.Deep.QuietTactic
import Derived.Outline
namespace Go.Proofs.YtbkbikkieabcmaaDoor
open Go.RowKit
abbrev W64 := BitVec 64
def uV (x : W64) : Value := .int .u64 (x.toNat : Int)
theorem retB {a b : Bool} (h : a = b) : Ending.returned (.bool a) = .returned (.bool b) := by rw [h]
theorem retI {k : IntKind} {a b : Int} (h : a = b) : Ending.returned (.int k a) = .returned (.int k b) := by rw [h]
theorem ofInt_toNat (x : W64) : BitVec.ofInt 64 (x.toNat : Int) = x := by
  apply BitVec.eq_of_toNat_eq
  simp
theorem wrap_toNat (x : W64) : IntKind.u64.wrap (x.toNat : Int) = (x.toNat : Int) := by
  have := x.isLt
  simp [IntKind.wrap, IntKind.bits, IntKind.signed]
  omega
theorem bits_and (x y : W64) : bits .and .u64 (x.toNat : Int) (y.toNat : Int) = ((x &&& y).toNat : Int) := by
  unfold bits
  simp only [IntKind.bits, ofInt_toNat]
  exact wrap_toNat _
theorem bits_or (x y : W64) : bits .or .u64 (x.toNat : Int) (y.toNat : Int) = ((x ||| y).toNat : Int) := by
  unfold bits
  simp only [IntKind.bits, ofInt_toNat]
  exact wrap_toNat _
theorem bits_andNot (x y : W64) : bits .andNot .u64 (x.toNat : Int) (y.toNat : Int) = ((x &&& ~~~y).toNat : Int) := by
  unfold bits
  simp only [IntKind.bits, ofInt_toNat]
  exact wrap_toNat _
theorem shr_int (x : W64) (n : Nat) : (x.toNat : Int) / 2 ^ n = ((x >>> n).toNat : Int) := by
  rw [BitVec.toNat_ushiftRight, Nat.shiftRight_eq_div_pow]
  simp
theorem has_bits (x : W64) (n : Nat) : (bits .and .u64 ((x.toNat : Int) / 2 ^ n) 1 == 1) = x.getLsbD n := by
  rw [shr_int, show (1 : Int) = ((1#64).toNat : Int) by decide, bits_and]
  rw [Bool.eq_iff_iff, beq_iff_eq]
  have h : (x >>> n) &&& 1#64 = if x.getLsbD n then 1#64 else 0#64 := by
    apply BitVec.eq_of_getLsbD_eq
    intro i hi
    cases hb : x.getLsbD n <;> cases i <;> simp_all
  rw [h]
  cases x.getLsbD n <;> simp
def vld (u : Int) : Bool := decide (0 ≤ u ∧ u < 64)
theorem vld_t {u : Int} (h : 0 ≤ u ∧ u < 64) : vld u = true := by unfold vld; exact decide_eq_true h
theorem vld_f {u : Int} (h : ¬ (0 ≤ u ∧ u < 64)) : vld u = false := by unfold vld; exact decide_eq_false h
theorem valid_any (u : Int) (w : World) : Calls Tryd.prog 43 #[.int .i64 u] w fun e w' => e = .returned (.bool (vld u)) ∧ w = w' := by
  rcases Int.lt_or_le u 0 with h | h
  · have hk := Lib.hid (vld_f (u := u) (by omega))
    go_enter Tryd.func43, Tryd.ntmps43
    go_wp2_with fail
    go_ret
    exact ⟨retB hk.out.symm, rfl⟩
  · rcases Int.lt_or_le u 64 with h2 | h2
    · have hk := Lib.hid (vld_t (u := u) (by omega))
      go_enter Tryd.func43, Tryd.ntmps43
      go_wp2_with fail
      go_ret
      exact ⟨retB hk.out.symm, rfl⟩
    · have hk := Lib.hid (vld_f (u := u) (by omega))
      go_enter Tryd.func43, Tryd.ntmps43
      go_wp2_with fail
      go_ret
      exact ⟨retB ((decide_eq_false (by omega)).trans hk.out.symm), rfl⟩
/-- Whether a set has a user. -/
def hasB (x : W64) (u : Int) : Bool := vld u && x.getLsbD u.toNat
theorem has_any (x : W64) (u : Int) (w : World) : Calls Tryd.prog 24 #[.int .u64 (x.toNat : Int), .int .i64 u] w fun e w' => e = .returned (.bool (hasB x u)) ∧ w = w' := by
  cases hv : vld u with
  | true =>
    have HV := Lib.hid hv
    have hu : 0 ≤ u ∧ u < 64 := by unfold vld at hv; exact of_decide_eq_true hv
    obtain ⟨h0, h1⟩ := hu
    clear hv
    go_enter Tryd.func24, Tryd.ntmps24
    go_wp2_with fail
    refine (valid_any _ _).mono ?_
    rintro e w' ⟨rfl, rfl⟩
    rw [HV.out]
    go_wp2_with fail
    go_ret
    exact ⟨retB (by unfold hasB; rw [HV.out, has_bits]; rfl), rfl⟩
  | false =>
    have HV := Lib.hid hv
    clear hv
    go_enter Tryd.func24, Tryd.ntmps24
    go_wp2_with fail
    refine (valid_any _ _).mono ?_
    rintro e w' ⟨rfl, rfl⟩
    rw [HV.out]
    go_wp2_with fail
    go_ret
    exact ⟨retB (by unfold hasB; rw [HV.out]; rfl), rfl⟩
/-- A slice of words. -/
def IsU (w : World) (a : Option Addr) (len : Nat) (L : List W64) : Prop := L.length = len ∧ (0 < len → ∃ x, a = some x ∧ x.block < w.heap.size ∧ ∀ i (h : i < L.length), w.cell? (x.add i) = some (.int .u64 (L[i].toNat : Int)))
def meetL (L : List W64) : W64 := L.foldl (· &&& ·) (BitVec.allOnes 64)
theorem meet_snoc (L : List W64) (x : W64) : meetL (L ++ [x]) = meetL L &&& x := by unfold meetL; rw [List.foldl_append]; rfl
set_option maxHeartbeats 800000 in
theorem meet_any (a : Option Addr) (len cap : Nat) (L : List W64) (w : World) (hm : len ≤ maxLen) (hL : IsU w a len L) :
    Calls Tryd.prog 26 #[.slice a len cap] w fun e w' => e = .returned (.int .u64 ((meetL L).toNat : Int)) ∧ w = w' := by
  unfold maxLen at hm
  obtain ⟨hlen, hc⟩ := hL
  have HL := Lib.hid hlen
  have HC := Lib.hid hc
  clear hlen hc
  go_enter Tryd.func26, Tryd.ntmps26
  go_wp2_with fail
  go_loop [3, 8] (fun s i => ∃ k : Nat, k ≤ len ∧ i = .int .i64 k ∧ s = .int .u64 ((meetL (L.take k)).toNat : Int)) (fun _ i => len - (intOf i).toNat)
  case atStart => exact ⟨0, Nat.zero_le _, rfl, rfl⟩
  case round =>
    obtain ⟨k, hk, rfl, rfl⟩ := hrel
    by_cases hlt : k < len
    · obtain ⟨x, rfl, hx, hcell⟩ := HC.out (by omega)
      have hkL : k < L.length := by rw [HL.out]; exact hlt
      have c1 := hcell k hkL
      have HN : Hid (meetL (L.take (k + 1)) = meetL (L.take k) &&& L[k]) := by unfold Hid; rw [List.take_succ_eq_append_getElem hkL, meet_snoc]
      clear hcell
      generalize L[k] = y at *
      generalize meetL (L.take k) = s at *
      go_wp2_with fail
      go_round
      case rel => exact ⟨k + 1, by omega, by go_num, by rw [HN.out, bits_and]⟩
      case measure => simp [intOf]; omega
    · obtain rfl : k = len := by omega
      have HT : Hid (L.take k = L) := List.take_of_length_le (by rw [HL.out]; exact Nat.le_refl _)
      go_wp2_with fail
      go_ret
      exact ⟨retI (by rw [HT.out]), rfl⟩
end Go.Proofs.YtbkbikkieabcmaaDoor
