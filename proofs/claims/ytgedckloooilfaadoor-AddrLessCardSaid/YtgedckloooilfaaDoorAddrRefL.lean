/- The specification's order of addresses. -/
import Derived.Test.YtgedckloooilfaaDoorAddrB
namespace Go.Proofs.YtgedckloooilfaaDoor
open Go.RowKit AM
theorem rlless_any (a b c d : Int) (w : World) :
    Calls Tryd.prog 49 #[.agg #[.int .i64 a, .int .i64 b], .agg #[.int .i64 c, .int .i64 d]] w fun e w' => e = .returned (.bool (lessB a b c d)) ∧ Below w.heap.size w w' := by
  rcases Int.lt_or_le b d with h | h
  · have hk := Lib.hid (lessB_t (a := a) (c := c) (Or.inl h))
    go_enter Tryd.func49, Tryd.ntmps49
    go_wp2
    go_ret
    exact ⟨retB hk.out.symm, ((Below.refl _ _).alloc (Nat.le_refl _) _).alloc (by simp) _⟩
  · rcases Decidable.em (b = d) with h2 | h2
    · subst h2
      have e1 : (b == b) = true := by simp
      have e2 : decide (b < b) = false := by simp
      rcases Int.lt_or_le a c with h3 | h3
      · have hk := Lib.hid (lessB_t (a := a) (b := b) (c := c) (d := b) (by omega))
        go_enter Tryd.func49, Tryd.ntmps49
        go_wp2
        go_ret
        exact ⟨retB hk.out.symm, ((Below.refl _ _).alloc (Nat.le_refl _) _).alloc (by simp) _⟩
      · have hk := Lib.hid (lessB_f (a := a) (b := b) (c := c) (d := b) (by omega))
        go_enter Tryd.func49, Tryd.ntmps49
        go_wp2
        go_ret
        exact ⟨retB ((decide_eq_false (by omega)).trans hk.out.symm), ((Below.refl _ _).alloc (Nat.le_refl _) _).alloc (by simp) _⟩
    · have e1 : (b == d) = false := by simpa using h2
      have e2 : d < b := by omega
      have hk := Lib.hid (lessB_f (a := a) (b := b) (c := c) (d := d) (by omega))
      clear h2
      go_enter Tryd.func49, Tryd.ntmps49
      go_wp2
      go_ret
      exact ⟨retB ((decide_eq_false (by omega)).trans hk.out.symm), ((Below.refl _ _).alloc (Nat.le_refl _) _).alloc (by simp) _⟩
end Go.Proofs.YtgedckloooilfaaDoor
