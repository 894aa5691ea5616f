/- GlyphCompares: the program's comparison and the specification's return the same. -/
import Derived.Test.YtgoddihlonhibaaDoorGlyphKnown
namespace Go.Proofs.YtgoddihlonhibaaDoor
open Go.RowKit GM
set_option maxRecDepth 100000 in
set_option maxHeartbeats 1600000 in
theorem glyphCompares_any (s t : ByteArray) (w : World) (hs : s.size ≤ maxLen) (ht : t.size ≤ maxLen) (hM : ML w) :
    Calls Tryd.prog 4 #[.string s, .string t] w fun e w' => e = .returned (.bool true) ∧ Below w.heap.size w w' := by
  have HS := Lib.hid hs
  have HT := Lib.hid ht
  have HM := Lib.hid hM
  clear hM
  unfold maxLen at hs ht
  by_cases h : 2000 < s.size
  · go_enter Tryd.func4, Tryd.ntmps4
    go_wp2_with fail
    refine (known_any _ HM.out).mono ?_
    rintro e w1 ⟨rfl, hB1⟩
    have HB1 := Lib.hid hB1
    clear hB1
    go_wp2_with fail
    go_ret
    exact ⟨rfl, HB1.out⟩
  · by_cases h2 : 2000 < t.size
    · go_enter Tryd.func4, Tryd.ntmps4
      go_wp2_with fail
      refine (known_any _ HM.out).mono ?_
      rintro e w1 ⟨rfl, hB1⟩
      have HB1 := Lib.hid hB1
      clear hB1
      go_wp2_with fail
      go_ret
      exact ⟨rfl, HB1.out⟩
    · go_enter Tryd.func4, Tryd.ntmps4
      go_wp2_with fail
      refine (compare_any s t HS.out HT.out _).mono ?_
      rintro e w1 ⟨rfl, hB⟩
      have HB1 := Lib.hid hB
      clear hB
      go_wp2_with fail
      refine (rcompare_any s t HS.out HT.out _).mono ?_
      rintro e w2 ⟨rfl, hB⟩
      have HB2 := Lib.hid (Below.next HB1.out hB)
      clear hB
      go_wp2_with fail
      refine (compare_any s s HS.out HS.out _).mono ?_
      rintro e w3 ⟨rfl, hB⟩
      rw [cmpS_self]
      have HB3 := Lib.hid (Below.next HB2.out hB)
      clear hB
      go_wp2_with fail
      go_ret
      exact ⟨rfl, HB3.out⟩
end Go.Proofs.YtgoddihlonhibaaDoor
