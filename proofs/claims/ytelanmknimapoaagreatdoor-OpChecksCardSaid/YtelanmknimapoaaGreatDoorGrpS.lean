/- Contracts of the specification's sets (User, Bit, Of, All, Has, Members, Meet), and of the program's Of and All for any numbers. -/
import Derived.Test.YtelanmknimapoaaGreatDoorMga
import Derived.Lib.MinMax
import Derived.RegionTactic
namespace Go.Proofs.YtelanmknimapoaaGreatDoor
open Go.RowKit
theorem suser_any (u : Int) (w : World) : Calls Tryz.prog 83 #[.int .i64 u] w fun e w' => e = .returned (.bool (vld u)) ∧ w = w' := by
  rcases Int.lt_or_le u 0 with h | h
  · have hk := Lib.hid (vld_f (u := u) (by omega))
    go_enter Tryz.func83, Tryz.ntmps83
    go_wp2_with fail
    go_ret
    exact ⟨retB hk.out.symm, rfl⟩
  · rcases Int.lt_or_le u 64 with h2 | h2
    · have hk := Lib.hid (vld_t (u := u) (by omega))
      go_enter Tryz.func83, Tryz.ntmps83
      go_wp2_with fail
      go_ret
      exact ⟨retB hk.out.symm, rfl⟩
    · have hk := Lib.hid (vld_f (u := u) (by omega))
      go_enter Tryz.func83, Tryz.ntmps83
      go_wp2_with fail
      go_ret
      exact ⟨retB ((decide_eq_false (by omega)).trans hk.out.symm), rfl⟩
/-- The set of one user. -/
def bitW (k : Nat) : W64 := 1#64 <<< k
theorem sbit_any (u : Nat) (hu : u < 64) (w : World) : Calls Tryz.prog 82 #[.int .i64 (u : Int)] w fun e w' => e = .returned (.int .u64 ((bitW u).toNat : Int)) ∧ w = w' := by
  go_enter Tryz.func82, Tryz.ntmps82
  go_wp2_with fail
  go_ret
  exact ⟨retI (shl_one u), rfl⟩
theorem bit_has (x : W64) (k : Nat) (hk : k < 64) : (bits .and .u64 (x.toNat : Int) ((bitW k).toNat : Int) != 0) = x.getLsbD k := by
  unfold bitW
  rw [bits_and, Bool.eq_iff_iff, bne_iff_ne]
  rw [show (((x &&& 1#64 <<< k).toNat : Int) ≠ 0 ↔ x &&& 1#64 <<< k ≠ 0#64) by
    refine not_congr ⟨fun h => ?_, fun h => by rw [h]; rfl⟩
    apply BitVec.eq_of_toNat_eq; simpa using h]
  have key : ∀ i, i < 64 → (1#64 <<< k).getLsbD i = decide (i = k) := by
    intro i hi
    rw [BitVec.getLsbD_shiftLeft]
    by_cases h : i = k
    · subst h; simp [hi]
    · simp [h]; omega
  constructor
  · intro h
    cases hb : x.getLsbD k with
    | true => rfl
    | false =>
      exfalso; apply h
      apply BitVec.eq_of_getLsbD_eq
      intro i hi
      rw [BitVec.getLsbD_and, key i hi]
      by_cases e : i = k
      · subst e; simp [hb]
      · simp [e]
  · intro h h0
    have h2 : (x &&& 1#64 <<< k).getLsbD k = false := by rw [h0]; simp
    rw [BitVec.getLsbD_and, key k hk, h] at h2
    simp at h2
/-- A slice of whole numbers. -/
def IsZ (w : World) (a : Option Addr) (len : Nat) (L : List Int) : Prop := L.length = len ∧ (0 < len → ∃ x, a = some x ∧ x.block < w.heap.size ∧ ∀ (i : Nat) (u : Int), L[i]? = some u → w.cell? (x.add i) = some (.int .i64 u))
theorem IsZ.later {w w' : World} {a : Option Addr} {n : Nat} {L : List Int} (h : IsZ w a n L) (hB : Below w.heap.size w w') : IsZ w' a n L := by
  refine ⟨h.1, fun h0 => ?_⟩
  obtain ⟨x, rfl, hx, hc⟩ := h.2 h0
  have hz := hB.size
  refine ⟨x, rfl, by omega, fun i u hu => ?_⟩
  rw [hB.cell (p := x.add i) (by unfold Addr.add; split <;> exact hx)]
  exact hc i u hu
def allW (n : Nat) : W64 := orL (List.range n)
theorem allW_succ (n : Nat) : allW (n + 1) = allW n ||| bitW n := by unfold allW; rw [List.range_succ]; exact orL_snoc _ _
theorem sall_in (n : Nat) (hn : n ≤ 64) (w : World) : Calls Tryz.prog 53 #[.int .i64 (n : Int)] w fun e w' => e = .returned (.tuple #[.int .u64 ((allW n).toNat : Int), .int .i64 0]) ∧ w = w' := by
  go_enter Tryz.func53, Tryz.ntmps53
  go_wp2_with fail
  go_loop [4, 5] (fun s i => ∃ k : Nat, k ≤ n ∧ i = .int .i64 k ∧ s = .int .u64 ((allW k).toNat : Int)) (fun _ i => n - (intOf i).toNat)
  case atStart => exact ⟨0, Nat.zero_le _, rfl, rfl⟩
  case round =>
    obtain ⟨k, hk, rfl, rfl⟩ := hrel
    by_cases hlt : k < n
    · have HN := Lib.hid (allW_succ k)
      generalize allW k = s at *
      go_wp2_with fail
      refine (sbit_any k (by omega) _).mono ?_
      rintro e w' ⟨rfl, rfl⟩
      go_wp2_with fail
      go_round
      case rel => exact ⟨k + 1, by omega, by go_num, by rw [HN.out, ← bits_or]⟩
      case measure => simp [intOf]; omega
    · obtain rfl : k = n := by omega
      go_wp2_with fail
      go_ret2
      exact ⟨rfl, rfl⟩
theorem shas_any (x : W64) (u : Int) (w : World) : Calls Tryz.prog 54 #[.int .u64 (x.toNat : Int), .int .i64 u] w fun e w' => e = .returned (.bool (hasB x u)) ∧ w = w' := by
  cases hv : vld u with
  | true =>
    have HV := Lib.hid hv
    have hu : 0 ≤ u ∧ u < 64 := by unfold vld at hv; exact of_decide_eq_true hv
    obtain ⟨v, rfl⟩ : ∃ v : Nat, u = v := ⟨u.toNat, by omega⟩
    have hv64 : v < 64 := by omega
    clear hv hu
    go_enter Tryz.func54, Tryz.ntmps54
    go_wp2_with fail
    refine (suser_any _ _).mono ?_
    rintro e w' ⟨rfl, rfl⟩
    rw [HV.out]
    go_wp2_with fail
    refine (sbit_any v hv64 _).mono ?_
    rintro e w' ⟨rfl, rfl⟩
    go_wp2_with fail
    go_ret
    exact ⟨retB (by unfold hasB; rw [HV.out, Int.toNat_natCast]; exact bit_has x v hv64), rfl⟩
  | false =>
    have HV := Lib.hid hv
    clear hv
    go_enter Tryz.func54, Tryz.ntmps54
    go_wp2_with fail
    refine (suser_any _ _).mono ?_
    rintro e w' ⟨rfl, rfl⟩
    rw [HV.out]
    go_wp2_with fail
    go_ret
    exact ⟨retB (by unfold hasB; rw [HV.out]; rfl), rfl⟩
end Go.Proofs.YtelanmknimapoaaGreatDoor
