/- Contracts of Compare: the program's and the specification's. -/
import Derived.Test.YtdanbabamcdebaaGreatDoorGlyphG
import Derived.Test.YtdanbabamcdebaaGreatDoorGlyphMathB
namespace Go.Proofs.YtdanbabamcdebaaGreatDoor
open Go.RowKit GM
set_option maxHeartbeats 400000 in
theorem compare_any (s t : ByteArray) (hs : s.size ≤ maxLen) (ht : t.size ≤ maxLen) (w : World) :
    Calls Tryz.prog 139 #[.string s, .string t] w fun e w' => e = .returned (.int .i64 (cmpS s.data.toList t.data.toList)) ∧ Below w.heap.size w w' := by
  go_enter Tryz.func139, Tryz.ntmps139
  go_wp2_with fail
  refine (upper_any s hs _).mono ?_
  rintro e w1 ⟨rfl, hB1⟩
  have HB1 := Lib.hid hB1
  clear hB1
  go_wp2_with fail
  refine (upper_any t ht _).mono ?_
  rintro e w2 ⟨rfl, hB2⟩
  have HB2 := Lib.hid (Below.next HB1.out hB2)
  clear hB2
  go_wp2_with fail
  refine (Tryz.strings_Compare (upS s) (upS t) _).mono ?_
  rintro e w3 ⟨rfl, rfl⟩
  go_wp2_with fail
  go_ret
  exact ⟨retI (by unfold upS cmpS; rw [str_data, str_data]), HB2.out⟩
set_option maxHeartbeats 400000 in
theorem rcompare_any (s t : ByteArray) (hs : s.size ≤ maxLen) (ht : t.size ≤ maxLen) (w : World) :
    Calls Tryz.prog 127 #[.string s, .string t] w fun e w' => e = .returned (.int .i64 (cmpS s.data.toList t.data.toList)) ∧ Below w.heap.size w w' := by
  go_enter Tryz.func127, Tryz.ntmps127
  go_wp2_with fail
  refine (rupper_any s hs _).mono ?_
  rintro e w1 ⟨rfl, hB1⟩
  have HB1 := Lib.hid hB1
  clear hB1
  go_wp2_with fail
  refine (rupper_any t ht _).mono ?_
  rintro e w2 ⟨rfl, hB2⟩
  have HB2 := Lib.hid (Below.next HB1.out hB2)
  clear hB2
  have HC := Lib.hid (cb_eq (s.data.toList.map up) (t.data.toList.map up))
  have e1 : (upS s).toList = s.data.toList.map up := by rw [ByteArray.toList_eq]; unfold upS; rw [str_data]
  have e2 : (upS t).toList = t.data.toList.map up := by rw [ByteArray.toList_eq]; unfold upS; rw [str_data]
  cases hl : Op.bytesLess (s.data.toList.map up) (t.data.toList.map up) with
  | true =>
    have HL := Lib.hid hl
    go_wp2_with fail
    go_ret
    exact ⟨retI (by unfold cmpS; rw [HC.out, HL.out]; rfl), HB2.out⟩
  | false =>
    have HL := Lib.hid hl
    by_cases he : s.data.toList.map up = t.data.toList.map up
    · have HE := Lib.hid he
      have he' : (s.data.toList.map up == t.data.toList.map up) = true := by simpa using he
      clear he
      go_wp2_with fail
      go_ret
      exact ⟨retI (by unfold cmpS; rw [HC.out, HL.out, if_pos HE.out]; rfl), HB2.out⟩
    · have HE := Lib.hid he
      have he' : (s.data.toList.map up == t.data.toList.map up) = false := by simpa using he
      clear he
      go_wp2_with fail
      go_ret
      exact ⟨retI (by unfold cmpS; rw [HC.out, HL.out, if_neg HE.out]; rfl), HB2.out⟩
end Go.Proofs.YtdanbabamcdebaaGreatDoor
