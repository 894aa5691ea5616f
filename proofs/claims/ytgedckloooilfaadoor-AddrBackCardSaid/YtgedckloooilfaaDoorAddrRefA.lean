/- Contracts of the specification's small functions of addresses. -/
import Derived.Test.YtgedckloooilfaaDoorAddrC
namespace Go.Proofs.YtgedckloooilfaaDoor
open Go.RowKit AM
set_option maxHeartbeats 400000 in
theorem rvalid_any (c r : Int) (w : World) :
    Calls Tryd.prog 41 #[.agg #[.int .i64 c, .int .i64 r]] w fun e w' => e = .returned (.bool (okR c r)) ∧ Below w.heap.size w w' := by
  rcases Int.lt_or_le c 1 with h1 | h1
  · have hk := Lib.hid (okR_f (c := c) (r := r) (by omega))
    go_enter Tryd.func41, Tryd.ntmps41
    go_wp2
    go_ret
    exact ⟨retB hk.out.symm, (Below.refl _ _).alloc (Nat.le_refl _) _⟩
  · rcases Int.lt_or_le 1024 c with h2 | h2
    · have hk := Lib.hid (okR_f (c := c) (r := r) (by omega))
      go_enter Tryd.func41, Tryd.ntmps41
      go_wp2
      go_ret
      exact ⟨retB hk.out.symm, (Below.refl _ _).alloc (Nat.le_refl _) _⟩
    · rcases Int.lt_or_le r 1 with h3 | h3
      · have hk := Lib.hid (okR_f (c := c) (r := r) (by omega))
        go_enter Tryd.func41, Tryd.ntmps41
        go_wp2
        go_ret
        exact ⟨retB hk.out.symm, (Below.refl _ _).alloc (Nat.le_refl _) _⟩
      · rcases Int.lt_or_le 1024 r with h4 | h4
        · have hk := Lib.hid (okR_f (c := c) (r := r) (by omega))
          go_enter Tryd.func41, Tryd.ntmps41
          go_wp2
          go_ret
          exact ⟨retB ((decide_eq_false (by omega)).trans hk.out.symm), (Below.refl _ _).alloc (Nat.le_refl _) _⟩
        · have hk := Lib.hid (okR_t (c := c) (r := r) (by omega))
          go_enter Tryd.func41, Tryd.ntmps41
          go_wp2
          go_ret
          exact ⟨retB hk.out.symm, (Below.refl _ _).alloc (Nat.le_refl _) _⟩

theorem rindex_yes (c r : Int) (h : 1 ≤ c ∧ c ≤ 1024 ∧ 1 ≤ r ∧ r ≤ 1024) (w : World) :
    Calls Tryd.prog 45 #[.agg #[.int .i64 c, .int .i64 r]] w fun e w' => e = .returned (.tuple #[.int .i64 ((r - 1) * 1024 + c - 1), .int .i64 0]) ∧ Below w.heap.size w w' := by
  have hk := Lib.hid (okR_t h)
  obtain ⟨h1, h2, h3, h4⟩ := h
  go_enter Tryd.func45, Tryd.ntmps45
  go_wp2_with fail
  refine (rvalid_any _ _ _).mono ?_
  rintro e w1 ⟨rfl, hB⟩
  rw [hk.out]
  obtain ⟨hc, hf⟩ := bcell hB
  simp at hc hf
  go_wp2_with fail
  go_ret2
  exact ⟨rfl, Below.next ((Below.refl _ _).alloc (Nat.le_refl _) _) hB⟩
theorem rindex_no (c r : Int) (h : ¬ (1 ≤ c ∧ c ≤ 1024 ∧ 1 ≤ r ∧ r ≤ 1024)) (w : World) :
    Calls Tryd.prog 45 #[.agg #[.int .i64 c, .int .i64 r]] w fun e w' => e = .returned (.tuple #[.int .i64 0, .int .i64 3]) ∧ Below w.heap.size w w' := by
  have hk := Lib.hid (okR_f h)
  clear h
  go_enter Tryd.func45, Tryd.ntmps45
  go_wp2_with fail
  refine (rvalid_any _ _ _).mono ?_
  rintro e w1 ⟨rfl, hB⟩
  rw [hk.out]
  obtain ⟨hc, hf⟩ := bcell hB
  simp at hc hf
  go_wp2_with fail
  go_ret2
  exact ⟨rfl, Below.next ((Below.refl _ _).alloc (Nat.le_refl _) _) hB⟩
theorem rat_yes (i : Int) (h0 : 0 ≤ i) (h1 : i < 1048576) (w : World) :
    Calls Tryd.prog 47 #[.int .i64 i] w fun e w' => e = .returned (.tuple #[.agg #[.int .i64 (i % 1024 + 1), .int .i64 (i / 1024 + 1)], .int .i64 0]) ∧ Below w.heap.size w w' := by
  go_enter Tryd.func47, Tryd.ntmps47
  go_wp2_with fail
  exact bodyPost_ret (v := .tuple #[.agg #[_, _], _]) (by simp [results, Tryd.results47, go_sem]) rfl ⟨rfl, (Below.refl _ _).alloc (Nat.le_refl _) _⟩
theorem rat_no (i : Int) (h : i < 0 ∨ 1048576 ≤ i) (w : World) :
    Calls Tryd.prog 47 #[.int .i64 i] w fun e w' => e = .returned (.tuple #[.agg #[.int .i64 0, .int .i64 0], .int .i64 3]) ∧ Below w.heap.size w w' := by
  rcases h with h | h
  · go_enter Tryd.func47, Tryd.ntmps47
    go_wp2_with fail
    exact bodyPost_ret (v := .tuple #[.agg #[_, _], _]) (by simp [results, Tryd.results47, go_sem]) rfl ⟨rfl, (Below.refl _ _).alloc (Nat.le_refl _) _⟩
  · have h' : ¬ i < 0 := by omega
    go_enter Tryd.func47, Tryd.ntmps47
    go_wp2_with fail
    exact bodyPost_ret (v := .tuple #[.agg #[_, _], _]) (by simp [results, Tryd.results47, go_sem]) rfl ⟨rfl, (Below.refl _ _).alloc (Nat.le_refl _) _⟩
end Go.Proofs.YtgedckloooilfaaDoor
