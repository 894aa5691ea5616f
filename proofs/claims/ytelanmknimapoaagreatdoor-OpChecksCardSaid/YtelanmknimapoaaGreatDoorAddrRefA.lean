/- Contracts of the specification's small functions of addresses. -/
import Derived.Test.YtelanmknimapoaaGreatDoorMgd
namespace Go.Proofs.YtelanmknimapoaaGreatDoor.Re
open Go.RowKit AM
set_option maxHeartbeats 400000 in
theorem rvalid_any (c r : Int) (w : World) :
    Calls Tryz.prog 103 #[.agg #[.int .i64 c, .int .i64 r]] w fun e w' => e = .returned (.bool (okR c r)) ∧ Below w.heap.size w w' := by
  rcases Int.lt_or_le c 1 with h1 | h1
  · have hk := Lib.hid (okR_f (c := c) (r := r) (by omega))
    go_enter Tryz.func103, Tryz.ntmps103
    go_wp2
    go_ret
    exact ⟨retB hk.out.symm, (Below.refl _ _).alloc (Nat.le_refl _) _⟩
  · rcases Int.lt_or_le 1024 c with h2 | h2
    · have hk := Lib.hid (okR_f (c := c) (r := r) (by omega))
      go_enter Tryz.func103, Tryz.ntmps103
      go_wp2
      go_ret
      exact ⟨retB hk.out.symm, (Below.refl _ _).alloc (Nat.le_refl _) _⟩
    · rcases Int.lt_or_le r 1 with h3 | h3
      · have hk := Lib.hid (okR_f (c := c) (r := r) (by omega))
        go_enter Tryz.func103, Tryz.ntmps103
        go_wp2
        go_ret
        exact ⟨retB hk.out.symm, (Below.refl _ _).alloc (Nat.le_refl _) _⟩
      · rcases Int.lt_or_le 1024 r with h4 | h4
        · have hk := Lib.hid (okR_f (c := c) (r := r) (by omega))
          go_enter Tryz.func103, Tryz.ntmps103
          go_wp2
          go_ret
          exact ⟨retB ((decide_eq_false (by omega)).trans hk.out.symm), (Below.refl _ _).alloc (Nat.le_refl _) _⟩
        · have hk := Lib.hid (okR_t (c := c) (r := r) (by omega))
          go_enter Tryz.func103, Tryz.ntmps103
          go_wp2
          go_ret
          exact ⟨retB hk.out.symm, (Below.refl _ _).alloc (Nat.le_refl _) _⟩

end Go.Proofs.YtelanmknimapoaaGreatDoor.Re
