/- GlyphTexts: the program's functions and the specification's return the same. -/
import Derived.Test.YtgoddihlonhibaaDoorGlyphKnown
namespace Go.Proofs.YtgoddihlonhibaaDoor
open Go.RowKit GM
set_option maxRecDepth 100000 in
set_option maxHeartbeats 1600000 in
theorem glyphTexts_any (s : ByteArray) (w : World) (hs : s.size ≤ maxLen) (hM : ML w) :
    Calls Tryd.prog 3 #[.string s] w fun e w' => e = .returned (.bool true) ∧ Below w.heap.size w w' := by
  have HS := Lib.hid hs
  have HM := Lib.hid hM
  clear hM
  unfold maxLen at hs
  by_cases h : 2000 < s.size
  · go_enter Tryd.func3, Tryd.ntmps3
    go_wp2_with fail
    refine (known_any _ HM.out).mono ?_
    rintro e w1 ⟨rfl, hB1⟩
    have HB1 := Lib.hid hB1
    clear hB1
    go_wp2_with fail
    go_ret
    exact ⟨rfl, HB1.out⟩
  · have hs' : s.size ≤ 4000 := by omega
    have H4 := Lib.hid hs'
    clear hs'
    go_enter Tryd.func3, Tryd.ntmps3
    go_wp2_with fail
    refine (check_any s HS.out _).mono ?_
    rintro e w1 ⟨rfl, rfl⟩
    go_wp2_with fail
    refine (rcheck_any s HS.out _).mono ?_
    rintro e w1 ⟨rfl, rfl⟩
    go_wp2_with fail
    refine (upper_any s HS.out _).mono ?_
    rintro e w1 ⟨rfl, hB⟩
    have HB1 := Lib.hid hB
    clear hB
    go_wp2_with fail
    refine (rupper_any s HS.out _).mono ?_
    rintro e w2 ⟨rfl, hB⟩
    have HB2 := Lib.hid (Below.next HB1.out hB)
    clear hB
    go_wp2_with fail
    refine (lower_any s HS.out _).mono ?_
    rintro e w3 ⟨rfl, hB⟩
    have HB3 := Lib.hid (Below.next HB2.out hB)
    clear hB
    go_wp2_with fail
    refine (rlower_any s HS.out _).mono ?_
    rintro e w4 ⟨rfl, hB⟩
    have HB4 := Lib.hid (Below.next HB3.out hB)
    clear hB
    go_wp2_with fail
    refine (trim_any s H4.out _).mono ?_
    rintro e w5 ⟨rfl, hB⟩
    have HB5 := Lib.hid (Below.next HB4.out hB)
    clear hB
    go_wp2_with fail
    refine (rtrim_any s H4.out _).mono ?_
    rintro e w6 ⟨rfl, hB⟩
    have HB6 := Lib.hid (Below.next HB5.out hB)
    clear hB
    go_wp2_with fail
    refine (quote_any s H4.out _ (HM.out.later HB6.out)).mono ?_
    rintro e w7 ⟨rfl, hB⟩
    have HB7 := Lib.hid (Below.next HB6.out hB)
    clear hB
    go_wp2_with fail
    refine (rquote_any s H4.out _).mono ?_
    rintro e w8 ⟨rfl, hB⟩
    have HB8 := Lib.hid (Below.next HB7.out hB)
    clear hB
    go_wp2_with fail
    refine (unquote_any s H4.out _).mono ?_
    rintro e w9 ⟨rfl, hB⟩
    have HB9 := Lib.hid (Below.next HB8.out hB)
    clear hB
    go_wp2_with fail
    refine (runquote_any s H4.out _).mono ?_
    rintro e w10 ⟨rfl, hB⟩
    have HB10 := Lib.hid (Below.next HB9.out hB)
    clear hB
    go_wp2_with fail
    go_ret
    exact ⟨rfl, HB10.out⟩
end Go.Proofs.YtgoddihlonhibaaDoor
