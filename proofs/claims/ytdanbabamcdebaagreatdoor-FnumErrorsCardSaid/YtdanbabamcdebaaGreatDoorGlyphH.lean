/- Contracts of Compare: the program's and the specification's. -/
import Derived.Test.YtdanbabamcdebaaGreatDoorGlyphF
import Derived.Test.YtdanbabamcdebaaGreatDoorGlyphMathB
namespace Go.Proofs.YtdanbabamcdebaaGreatDoor
open Go.RowKit GM
set_option maxHeartbeats 400000 in
theorem compare_any (s t : ByteArray) (hs : s.size ≤ maxLen) (ht : t.size ≤ maxLen) (w : World) :
    Calls Tryz.prog 139 #[.string s, .string t] w fun e w' => e = .returned (.int .i64 (cmpS s.data.toList t.data.toList)) ∧ Below w.heap.size w w' := by
  go_enter Tryz.func139, Tryz.ntmps139
  go_wp2_with fail
  refine (upper_any s hs _).mono ?_
  rintro e w1 ⟨rfl, hB1⟩
  have HB1 := Lib.hid hB1
  clear hB1
  go_wp2_with fail
  refine (upper_any t ht _).mono ?_
  rintro e w2 ⟨rfl, hB2⟩
  have HB2 := Lib.hid (Below.next HB1.out hB2)
  clear hB2
  go_wp2_with fail
  refine (Tryz.strings_Compare (upS s) (upS t) _).mono ?_
  rintro e w3 ⟨rfl, rfl⟩
  go_wp2_with fail
  go_ret
  exact ⟨retI (by unfold upS cmpS; rw [str_data, str_data]), HB2.out⟩
end Go.Proofs.YtdanbabamcdebaaGreatDoor
