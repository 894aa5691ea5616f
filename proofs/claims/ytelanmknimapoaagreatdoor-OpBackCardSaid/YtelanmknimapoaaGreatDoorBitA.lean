/- Sets of users as words of 64 bits: the runs of the operations, and the contracts of valid, Has and Meet. -/
import Derived.Test.YtelanmknimapoaaGreatDoorProg
import Derived.WalkKit
import Derived.WalkSpells
import Derived.WalkLawsBesides
import Derived.Lib.Hide
import Derived.BigQuiet
import Derived.Deep.QuietTactic
import Derived.Outline
namespace Go.Proofs.YtelanmknimapoaaGreatDoor
open Go.RowKit
abbrev W64 := BitVec 64
theorem retB {a b : Bool} (h : a = b) : Ending.returned (.bool a) = .returned (.bool b) := by rw [h]
theorem retI {k : IntKind} {a b : Int} (h : a = b) : Ending.returned (.int k a) = .returned (.int k b) := by rw [h]
theorem zi9 (x : W64) : BitVec.ofInt 64 (x.toNat : Int) = x := by
 apply BitVec.eq_of_toNat_eq
 simp
theorem zkq (x : W64) : IntKind.u64.wrap (x.toNat : Int) = (x.toNat : Int) := by
 have := x.isLt
 simp [IntKind.wrap, IntKind.bits, IntKind.signed]
 omega
theorem yan (x y : W64) : bits .and .u64 (x.toNat : Int) (y.toNat : Int) = ((x &&& y).toNat : Int) := by
 unfold bits
 simp only [IntKind.bits, zi9]
 exact zkq _
theorem zw7 (x y : W64) : bits .or .u64 (x.toNat : Int) (y.toNat : Int) = ((x ||| y).toNat : Int) := by
 unfold bits
 simp only [IntKind.bits, zi9]
 exact zkq _
theorem yb3 (x : W64) (n : Nat) : (x.toNat : Int) / 2 ^ n = ((x >>> n).toNat : Int) := by
 rw [BitVec.toNat_ushiftRight, Nat.shiftRight_eq_div_pow]
 simp
theorem zzf (x : W64) (n : Nat) : (bits .and .u64 ((x.toNat : Int) / 2 ^ n) 1 == 1) = x.getLsbD n := by
 rw [yb3, show (1 : Int) = ((1#64).toNat : Int) by decide, yan]
 rw [Bool.eq_iff_iff, beq_iff_eq]
 have h : (x >>> n) &&& 1#64 = if x.getLsbD n then 1#64 else 0#64 := by
  apply BitVec.eq_of_getLsbD_eq
  intro i hi
  cases hb : x.getLsbD n <;> cases i <;> simp_all
 rw [h]
 cases x.getLsbD n <;> simp
def vld (u : Int) : Bool := decide (0 ≤ u ∧ u < 64)
theorem ybs {u : Int} (h : 0 ≤ u ∧ u < 64) : vld u = true := by unfold vld; exact decide_eq_true h
theorem ybt {u : Int} (h : ¬ (0 ≤ u ∧ u < 64)) : vld u = false := by unfold vld; exact decide_eq_false h
theorem valid_any (u : Int) (w : World) : Calls Tryz.prog 75 #[.int .i64 u] w fun e w' => e = .returned (.bool (vld u)) ∧ w = w' := by
 rcases Int.lt_or_le u 0 with h | h
 · have hk := Lib.hid (ybt (u := u) (by omega))
   go_enter Tryz.func75, Tryz.ntmps75
   go_wp2_with fail
   go_ret
   exact ⟨retB hk.out.symm, rfl⟩
 · rcases Int.lt_or_le u 64 with h2 | h2
   · have hk := Lib.hid (ybs (u := u) (by omega))
     go_enter Tryz.func75, Tryz.ntmps75
     go_wp2_with fail
     go_ret
     exact ⟨retB hk.out.symm, rfl⟩
   · have hk := Lib.hid (ybt (u := u) (by omega))
     go_enter Tryz.func75, Tryz.ntmps75
     go_wp2_with fail
     go_ret
     exact ⟨retB ((decide_eq_false (by omega)).trans hk.out.symm), rfl⟩
def hasB (x : W64) (u : Int) : Bool := vld u && x.getLsbD u.toNat
theorem zps (x : W64) (u : Int) (w : World) : Calls Tryz.prog 45 #[.int .u64 (x.toNat : Int), .int .i64 u] w fun e w' => e = .returned (.bool (hasB x u)) ∧ w = w' := by
 cases hv : vld u with
 | true =>
  have HV := Lib.hid hv
  have hu : 0 ≤ u ∧ u < 64 := by unfold vld at hv; exact of_decide_eq_true hv
  obtain ⟨h0, h1⟩ := hu
  clear hv
  go_enter Tryz.func45, Tryz.ntmps45
  go_wp2_with fail
  refine (valid_any _ _).mono ?_
  rintro e w' ⟨rfl, rfl⟩
  rw [HV.out]
  go_wp2_with fail
  go_ret
  exact ⟨retB (by unfold hasB; rw [HV.out, zzf]; rfl), rfl⟩
 | false =>
  have HV := Lib.hid hv
  clear hv
  go_enter Tryz.func45, Tryz.ntmps45
  go_wp2_with fail
  refine (valid_any _ _).mono ?_
  rintro e w' ⟨rfl, rfl⟩
  rw [HV.out]
  go_wp2_with fail
  go_ret
  exact ⟨retB (by unfold hasB; rw [HV.out]; rfl), rfl⟩
end Go.Proofs.YtelanmknimapoaaGreatDoor
