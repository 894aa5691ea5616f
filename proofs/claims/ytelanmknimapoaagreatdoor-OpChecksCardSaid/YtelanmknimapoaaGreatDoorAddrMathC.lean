/- Addresses as lists of bytes, third part: what is written is read again, and the other way round. Plain mathematics. -/
import Derived.Test.YtelanmknimapoaaGreatDoorAddrMath
import Derived.Lib.ItoaNum
import Derived.Lib.ItoaMem
namespace Go.Proofs.YtelanmknimapoaaGreatDoor.Re.AM
/-! What is written is read again -/
theorem lets_fwd : ∀ n : Nat, n < 1025 → 1 ≤ n → ((lets n).all fun c => kd (c.toNat : Int) == 1) = true ∧ v26 1048576 (lets n) = n ∧ (lets n).length ≠ 0 := by decide +kernel
theorem digs_fwd : ∀ n : Nat, n < 1025 → 1 ≤ n → ((Lib.decDigits n).all fun c => kd (c.toNat : Int) == 2) = true ∧ v10 1048576 (Lib.decDigits n) = n ∧
    ((Lib.decDigits n).head?.map fun c => nm (c.toNat : Int) == 0) = some false := by decide +kernel
theorem PZ_fwd {c r : Int} (h : okR c r = true) : PZ (lets c ++ Lib.itoa r) = (c, r, 0) := by
  have hb : 1 ≤ c ∧ c ≤ 1024 ∧ 1 ≤ r ∧ r ≤ 1024 := by unfold okR at h; exact of_decide_eq_true h
  obtain ⟨m, rfl⟩ := Int.eq_ofNat_of_zero_le (show 0 ≤ c by omega)
  obtain ⟨n, rfl⟩ := Int.eq_ofNat_of_zero_le (show 0 ≤ r by omega)
  obtain ⟨f1, f2, f3⟩ := lets_fwd m (by omega) (by omega)
  obtain ⟨g1, g2, g3⟩ := digs_fwd n (by omega) (by omega)
  rw [Lib.itoa_nonneg]
  generalize lets (m : Int) = a at *
  generalize Lib.decDigits n = b at *
  have ha : AL a := fun x hx => by simpa using List.all_eq_true.1 f1 x hx
  have hbd : AD b := fun x hx => by simpa using List.all_eq_true.1 g1 x hx
  have hl : Lead b := by
    cases b with
    | nil => simp at g3
    | cons x t => exact ⟨x, t, rfl, hbd x (by simp), by simpa using g3⟩
  have hr := rd_digits a b ha hl hbd
  have hbl : (b.length : Int) ≠ 0 := by obtain ⟨x, t, rfl, _⟩ := hl; simp; omega
  unfold PZ
  rw [hr]
  simp only
  rw [if_neg (by rw [not_or]; exact ⟨by omega, hbl⟩), f2, g2, if_pos h]
end Go.Proofs.YtelanmknimapoaaGreatDoor.Re.AM
