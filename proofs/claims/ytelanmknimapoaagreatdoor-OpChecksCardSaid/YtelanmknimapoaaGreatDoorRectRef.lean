/- Contracts of the specification's functions of ranges. -/
import Derived.Test.YtelanmknimapoaaGreatDoorRectC
import Derived.Test.YtelanmknimapoaaGreatDoorAddrRefA
import Derived.Deep.RegionHeld3
namespace Go.Proofs.YtelanmknimapoaaGreatDoor.Re
open Go.RowKit AM
theorem qfrom_any (a b c d : Int) (w : World) :
    Calls Tryz.prog 80 #[.agg #[.int .i64 a, .int .i64 b, .int .i64 c, .int .i64 d]] w fun e w' => e = .returned (.agg #[.int .i64 a, .int .i64 b]) ∧ Below w.heap.size w w' := by
  go_enter Tryz.func80, Tryz.ntmps80
  go_wp2_with fail
  exact bodyPost_ret (v := .agg #[_, _]) (by simp [results, Tryz.results80, go_sem]) rfl ⟨rfl, ((Below.refl _ _).alloc (Nat.le_refl _) _).alloc (by simp) _⟩
theorem qto_any (a b c d : Int) (w : World) :
    Calls Tryz.prog 81 #[.agg #[.int .i64 a, .int .i64 b, .int .i64 c, .int .i64 d]] w fun e w' => e = .returned (.agg #[.int .i64 c, .int .i64 d]) ∧ Below w.heap.size w w' := by
  go_enter Tryz.func81, Tryz.ntmps81
  go_wp2_with fail
  exact bodyPost_ret (v := .agg #[_, _]) (by simp [results, Tryz.results81, go_sem]) rfl ⟨rfl, ((Below.refl _ _).alloc (Nat.le_refl _) _).alloc (by simp) _⟩
set_option maxHeartbeats 800000 in
theorem qcheck_any (a b c d : Int) (w : World) :
    Calls Tryz.prog 78 #[.agg #[.int .i64 a, .int .i64 b, .int .i64 c, .int .i64 d]] w fun e w' => e = .returned (.int .i64 (ckE a b c d)) ∧ Below w.heap.size w w' := by
  have HE : Hid (ckE a b c d = if okR a b = true then (if okR c d = true then (if emB a b c d = true then 3 else 0) else 3) else 3) := by
    unfold Hid ckE ckB
    cases okR a b <;> cases okR c d <;> cases emB a b c d <;> rfl
  go_enter Tryz.func78, Tryz.ntmps78
  go_wp2_with fail
  refine (qfrom_any a b c d _).mono ?_
  rintro e w1 ⟨rfl, hB1⟩
  have F1 := Lib.hid ((Four.start w a b c d 23).later hB1)
  have B1 := Lib.hid (Below.next (below_alloc w _) hB1)
  go_wp2_with fail
  refine (rvalid_any a b _).mono ?_
  rintro e w2 ⟨rfl, hB2⟩
  have F2 := Lib.hid (F1.out.later hB2)
  have B2 := Lib.hid (Below.next B1.out hB2)
  obtain ⟨_, f1, f2, f3, f4⟩ := F2.out
  cases h1 : okR a b
  · have E : Hid (ckE a b c d = 3) := by unfold Hid; rw [HE.out, h1]; rfl
    clear h1
    go_wp2_with fail
    go_ret
    exact ⟨retI' E.out.symm, B2.out⟩
  · have H1 := Lib.hid h1
    clear h1
    go_wp2_with fail
    refine (qto_any a b c d _).mono ?_
    rintro e w3 ⟨rfl, hB3⟩
    have F3 := Lib.hid (F2.out.later hB3)
    have B3 := Lib.hid (Below.next B2.out hB3)
    go_wp2_with fail
    refine (rvalid_any c d _).mono ?_
    rintro e w4 ⟨rfl, hB4⟩
    have F4 := Lib.hid (F3.out.later hB4)
    have B4 := Lib.hid (Below.next B3.out hB4)
    clear f1 f2 f3 f4
    obtain ⟨_, f1, f2, f3, f4⟩ := F4.out
    cases h2 : okR c d
    · have E : Hid (ckE a b c d = 3) := by unfold Hid; rw [HE.out, H1.out, h2]; rfl
      clear h2
      go_wp2_with fail
      go_ret
      exact ⟨retI' E.out.symm, B4.out⟩
    · have H2 := Lib.hid h2
      clear h2
      rcases Int.lt_or_le c a with g1 | g1
      · have E : Hid (ckE a b c d = 3) := by unfold Hid; rw [HE.out, H1.out, H2.out, emB_t (Or.inl g1)]; rfl
        go_wp2_with fail
        go_ret
        exact ⟨retI' E.out.symm, B4.out⟩
      · rcases Int.lt_or_le d b with g2 | g2
        · have E : Hid (ckE a b c d = 3) := by unfold Hid; rw [HE.out, H1.out, H2.out, emB_t (Or.inr g2)]; rfl
          go_wp2_with fail
          go_ret
          exact ⟨retI' E.out.symm, B4.out⟩
        · have E : Hid (ckE a b c d = 0) := by unfold Hid; rw [HE.out, H1.out, H2.out, emB_f (by omega)]; rfl
          go_wp2_with fail
          go_ret
          exact ⟨retI' E.out.symm, B4.out⟩
end Go.Proofs.YtelanmknimapoaaGreatDoor.Re
