/- The reference's helpers for lists of values: how many, valid, copies, equal. -/
import Derived.Test.YtdhahiodnmmkeaaGreatDoorFtE
import Derived.Test.YtdhahiodnmmkeaaGreatDoorValR
namespace Go.Proofs.YtdhahiodnmmkeaaGreatDoor.Va
open Go Go.RowKit GM
set_option linter.unusedVariables false
set_option linter.unusedSimpArgs false
/-- How many arguments a function has. -/
def arV (fn : Nat) : Nat × Nat :=
  match fn with
  | 5 => (2, 2)
  | 6 => (2, 2)
  | 7 => (2, 2)
  | 9 => (1, 16)
  | 10 => (1, 16)
  | 11 => (1, 16)
  | 12 => (1, 16)
  | 14 => (1, 16)
  | 15 => (1, 16)
  | 16 => (1, 16)
  | 17 => (1, 16)
  | 18 => (2, 2)
  | 19 => (2, 2)
  | 20 => (2, 3)
  | 21 => (1, 16)
  | 22 => (1, 16)
  | 23 => (1, 16)
  | 25 => (2, 2)
  | 30 => (2, 16)
  | 32 => (1, 2)
  | 33 => (1, 2)
  | 34 => (3, 3)
  | 38 => (1, 16)
  | 39 => (2, 2)
  | 40 => (2, 2)
  | 41 => (2, 3)
  | 43 => (2, 3)
  | 44 => (2, 2)
  | 45 => (2, 2)
  | _ => (1, 1)
theorem arV_le (fn : Nat) : (arV fn).2 ≤ 16 := by
  unfold arV
  split <;> decide
theorem arV_one (fn : Nat) : 1 ≤ (arV fn).1 := by
  unfold arV
  split <;> decide
theorem isV_at {w : World} {a : Option Addr} {n : Nat} {L : List V3} (h : IsV w a n L) {k : Nat} (hkl : k < L.length) : ∃ b off, a = some ⟨b, off, none⟩ ∧ b < w.heap.size ∧ w.cell? ⟨b, off + k * 3, none⟩ = some (.int .u8 (L[k].1 : Int)) ∧ w.cell? ⟨b, off + k * 3 + 1, none⟩ = some (.int .i64 L[k].2.1) ∧ w.cell? ⟨b, off + k * 3 + 2, none⟩ = some (.string L[k].2.2) := by
  obtain ⟨b, off, rfl, hrow⟩ := h.2 (by have := h.1; omega)
  refine ⟨b, off, rfl, hrow.1, ?_, hrow.2 k hkl 1 _ rfl, hrow.2 k hkl 2 _ rfl⟩
  have := hrow.2 k hkl 0 _ rfl; rwa [Nat.add_zero] at this
/-- All values of a list are valid. -/
def okL (L : List V3) : Bool := L.all (fun v => decide (vE v.1 v.2.1 v.2.2.data.toList = 0))
theorem okL_step {L : List V3} {k : Nat} (hkl : k < L.length) (hk : okL (L.take k) = true) : okL (L.take (k + 1)) = decide (vE L[k].1 L[k].2.1 L[k].2.2.data.toList = 0) := by
  unfold okL at *
  rw [List.take_succ_eq_append_getElem hkl, List.all_append, hk]
  simp
theorem okL_bad {L : List V3} {k : Nat} (h : okL (L.take (k + 1)) = false) : okL L = false := by
  unfold okL at *
  rw [← List.take_append_drop (k + 1) L, List.all_append, h]
  rfl
end Go.Proofs.YtdhahiodnmmkeaaGreatDoor.Va
