/- The fixed ranges of the statements: known() returns true. -/
import Derived.Test.YtelnffamkkkpaaaDoorRectE
namespace Go.Proofs.YtelnffamkkkpaaaDoor
open Go.RowKit AM
theorem of_any (a b c d : Int) (w : World) :
    Calls Tryd.prog 28 #[.int .i64 a, .int .i64 b, .int .i64 c, .int .i64 d] w fun e w' => e = .returned (.agg #[.int .i64 a, .int .i64 b, .int .i64 c, .int .i64 d]) ∧ Below w.heap.size w w' := by
  go_enter Tryd.func28, Tryd.ntmps28
  go_wp2_with fail
  exact bodyPost_ret (v := .agg #[_, _, _, _]) (by simp [results, Tryd.results28, go_sem]) rfl ⟨rfl, (Below.refl _ _).alloc (Nat.le_refl _) _⟩
theorem known_meet : mtB 1 1 3 3 2 2 4 4 = true ∧ max (1 : Int) 2 = 2 ∧ min (3 : Int) 4 = 3 := by decide
theorem known_fmt : fmtR 2 2 3 3 = [66, 50, 58, 67, 51] := by decide +kernel
set_option maxRecDepth 100000 in
set_option maxHeartbeats 1600000 in
theorem knownR_any (w : World) :
    Calls Tryd.prog 8 #[] w fun e w' => e = .returned (.bool true) ∧ Below w.heap.size w w' := by
  go_enter Tryd.func8, Tryd.ntmps8
  go_wp2_with fail
  refine (of_any 1 1 3 3 _).mono ?_
  rintro e w1 ⟨rfl, hB1⟩
  go_wp2_with fail
  refine (of_any 2 2 4 4 _).mono ?_
  rintro e w2 ⟨rfl, hB2⟩
  have B2 := Lib.hid (Below.next hB1 hB2)
  go_wp2_with fail
  refine (rmeet_any 1 1 3 3 2 2 4 4 _).mono ?_
  rintro e w3 ⟨rfl, hB3⟩
  rw [known_meet.1, known_meet.2.1, known_meet.2.2]
  simp only [bv_t]
  have B3 := Lib.hid (Below.next B2.out hB3)
  have F3 := Lib.hid (Four.start w3 2 2 3 3 23)
  clear hB1 hB2 hB3
  go_wp2_with fail
  refine (rfmt_yes 2 2 3 3 (by decide) _ (fun W _ => format_small 2 2 (by omega) (by omega) (by omega) (by omega) W) (fun W _ => format_small 3 3 (by omega) (by omega) (by omega) (by omega) W)).mono ?_
  rintro e w4 ⟨rfl, hB4⟩
  rw [known_fmt]
  have F4 := Lib.hid (F3.out.later hB4)
  have B4 := Lib.hid (Below.next (B3.out.alloc B3.out.size _) hB4)
  obtain ⟨_, g1, g2, g3, g4⟩ := F4.out
  clear hB4
  go_wp2_with fail
  refine (rhas_any 2 2 3 3 3 2 _).mono ?_
  rintro e w5 ⟨rfl, hB5⟩
  rw [show rhB 2 2 3 3 3 2 = true by decide]
  have F5 := Lib.hid (F4.out.later hB5)
  have B5 := Lib.hid (Below.next B4.out hB5)
  clear g1 g2 g3 g4 hB5
  obtain ⟨_, g1, g2, g3, g4⟩ := F5.out
  go_wp2_with fail
  refine (rhas_any 2 2 3 3 1 2 _).mono ?_
  rintro e w6 ⟨rfl, hB6⟩
  rw [show rhB 2 2 3 3 1 2 = false by decide]
  go_wp2_with fail
  go_ret
  exact ⟨rfl, Below.next B5.out hB6⟩
end Go.Proofs.YtelnffamkkkpaaaDoor
