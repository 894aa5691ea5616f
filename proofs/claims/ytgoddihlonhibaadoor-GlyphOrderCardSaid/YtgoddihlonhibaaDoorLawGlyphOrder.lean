/- GlyphOrder: Compare is an order of texts regardless of capitals. -/
import Derived.Test.YtgoddihlonhibaaDoorGlyphKnown
namespace Go.Proofs.YtgoddihlonhibaaDoor
open Go.RowKit GM
theorem cmpS_anti (a b : List UInt8) : cmpS b a = - cmpS a b := cb_anti _ _
theorem cmpS_range (a b : List UInt8) : -1 ≤ cmpS a b ∧ cmpS a b ≤ 1 := cb_range _ _
theorem cmpS_trans (a b c : List UInt8) (h1 : cmpS a b ≤ 0) (h2 : cmpS b c ≤ 0) : cmpS a c ≤ 0 ∧ (cmpS a c = 0 → cmpS a b = 0 ∧ cmpS b c = 0) := cb_trans _ _ _ h1 h2
theorem upS_eq (s t : ByteArray) : (upS s = upS t) ↔ cmpS s.data.toList t.data.toList = 0 := by
  unfold upS cmpS; rw [str_inj, cb_zero]
theorem cmpS_more (s t : ByteArray) : cmpS s.data.toList (s ++ t).data.toList ≤ 0 := by
  have : (s ++ t).data.toList = s.data.toList ++ t.data.toList := by simp
  rw [this]; exact cmpS_pre _ _
theorem upS_beq {s t : ByteArray} {b : Bool} (h : decide (cmpS s.data.toList t.data.toList = 0) = b) : ((upS s).toList == (upS t).toList) = b := by
  rw [← h, ByteArray.toList_eq, ByteArray.toList_eq]
  unfold upS cmpS
  rw [str_data, str_data, Bool.eq_iff_iff, beq_iff_eq, decide_eq_true_eq, cb_zero]
set_option maxRecDepth 100000 in
set_option maxHeartbeats 12800000 in
theorem glyphOrder_any (s t u : ByteArray) (w : World) (hs : s.size ≤ maxLen) (ht : t.size ≤ maxLen) (hu : u.size ≤ maxLen) (hM : ML w) :
    Calls Tryd.prog 9 #[.string s, .string t, .string u] w fun e w' => e = .returned (.bool true) ∧ Below w.heap.size w w' := by
  have HS := Lib.hid hs
  have HT := Lib.hid ht
  have HU := Lib.hid hu
  have HM := Lib.hid hM
  clear hM
  unfold maxLen at hs ht hu
  by_cases h : 300 < s.size ∨ 300 < t.size ∨ 300 < u.size
  · have key : ∀ (hh : 300 < s.size ∨ (¬ 300 < s.size ∧ 300 < t.size) ∨ (¬ 300 < s.size ∧ ¬ 300 < t.size ∧ 300 < u.size)), Calls Tryd.prog 9 #[.string s, .string t, .string u] w fun e w' => e = .returned (.bool true) ∧ Below w.heap.size w w' := by
      intro hh
      clear h
      rcases hh with h | ⟨h1, h⟩ | ⟨h1, h2, h⟩
      all_goals
        go_enter Tryd.func9, Tryd.ntmps9
        go_wp2_with fail
        refine (known_any _ HM.out).mono ?_
        rintro e w1 ⟨rfl, hB1⟩
        have HB1 := Lib.hid hB1
        clear hB1
        go_wp2_with fail
        go_ret
        exact ⟨rfl, HB1.out⟩
    exact key (by omega)
  · have h1 : s.size ≤ 300 := by omega
    have h2 : t.size ≤ 300 := by omega
    have h3 : u.size ≤ 300 := by omega
    clear h
    have HST : Hid ((s ++ t).size ≤ maxLen) := by unfold Hid maxLen; rw [ByteArray.size_append]; omega
    have hadd := fun W => run_string_add_sum (P := Tryd.prog) W s t (by omega)
    have HA := Lib.hid (cmpS_anti s.data.toList t.data.toList)
    obtain ⟨r1, r2⟩ := cmpS_range s.data.toList t.data.toList
    obtain ⟨r3, r4⟩ := cmpS_range t.data.toList u.data.toList
    obtain ⟨r5, r6⟩ := cmpS_range s.data.toList u.data.toList
    have HTR := Lib.hid (cmpS_trans s.data.toList t.data.toList u.data.toList)
    have HE : Hid (∀ b, decide (cmpS s.data.toList t.data.toList = 0) = b → ((upS s).toList == (upS t).toList) = b) := fun b h => upS_beq h
    have HLU : Hid (cmpS (loS s).data.toList (upS t).data.toList = cmpS s.data.toList t.data.toList) := by unfold Hid loS upS; rw [str_data, str_data]; exact cmpS_lu _ _
    have HLS : Hid ((loS s).size ≤ maxLen) := by unfold Hid; rw [loS_size]; exact HS.out
    have HUS : Hid ((upS t).size ≤ maxLen) := by unfold Hid; rw [upS_size]; exact HT.out
    have r7 := cmpS_more s t
    generalize hX : cmpS s.data.toList t.data.toList = x at *
    generalize hY : cmpS t.data.toList u.data.toList = y at *
    generalize hZ : cmpS s.data.toList u.data.toList = z at *
    generalize hV : cmpS s.data.toList (s ++ t).data.toList = v at *
    have HX := Lib.hid hX
    have HY := Lib.hid hY
    have HZ := Lib.hid hZ
    have HV := Lib.hid hV
    clear hX hY hZ hV
    have way : ∀ (hh : 0 < x ∨ (x = 0 ∧ 0 < y) ∨ (x < 0 ∧ 0 < y) ∨ (x = 0 ∧ y ≤ 0 ∧ z < 0) ∨ (x < 0 ∧ y ≤ 0 ∧ z < 0) ∨ (x = 0 ∧ y = 0 ∧ z = 0)), Calls Tryd.prog 9 #[.string s, .string t, .string u] w fun e w' => e = .returned (.bool true) ∧ Below w.heap.size w w' := by
      intro hh
      rcases hh with hx | ⟨hx, hy⟩ | ⟨hx, hy⟩ | ⟨hx, hy, hz⟩ | ⟨hx, hy, hz⟩ | ⟨hx, hy, hz⟩
      all_goals
        first
          | have he := HE.out false (decide_eq_false (by omega))
          | have he := HE.out true (decide_eq_true (by omega))
        try subst hx
        try subst hy
        try subst hz
        have HEE := Lib.hid he
        clear he
        try have hxb : (x == (0 : Int)) = false := (by rw [beq_eq_false_iff_ne]; omega)
        go_enter Tryd.func9, Tryd.ntmps9
        go_wp2_with fail
        refine (compare_any s t HS.out HT.out _).mono ?_
        rintro e w1 ⟨rfl, hB⟩
        rw [HX.out]
        have HB1 := Lib.hid hB
        clear hB
        go_wp2_with fail
        refine (compare_any t s HT.out HS.out _).mono ?_
        rintro e w2 ⟨rfl, hB⟩
        rw [HA.out]
        have HB2 := Lib.hid (Below.next HB1.out hB)
        clear hB
        go_wp2_with fail
        refine (compare_any t u HT.out HU.out _).mono ?_
        rintro e w3 ⟨rfl, hB⟩
        rw [HY.out]
        have HB3 := Lib.hid (Below.next HB2.out hB)
        clear hB
        go_wp2_with fail
        refine (compare_any s u HS.out HU.out _).mono ?_
        rintro e w4 ⟨rfl, hB⟩
        rw [HZ.out]
        have HB4 := Lib.hid (Below.next HB3.out hB)
        clear hB
        go_wp2_with fail
        refine (upper_any s HS.out _).mono ?_
        rintro e w5 ⟨rfl, hB⟩
        have HB5 := Lib.hid (Below.next HB4.out hB)
        clear hB
        go_wp2_with fail
        refine (upper_any t HT.out _).mono ?_
        rintro e w6 ⟨rfl, hB⟩
        have HB6 := Lib.hid (Below.next HB5.out hB)
        clear hB
        have he := HEE.out
        go_wp2_with fail
        clear he
        refine (compare_any s (s ++ t) HS.out HST.out _).mono ?_
        rintro e w7 ⟨rfl, hB⟩
        rw [HV.out]
        have HB7 := Lib.hid (Below.next HB6.out hB)
        clear hB
        go_wp2_with fail
        refine (lower_any s HS.out _).mono ?_
        rintro e w8 ⟨rfl, hB⟩
        have HB8 := Lib.hid (Below.next HB7.out hB)
        clear hB
        go_wp2_with fail
        refine (upper_any t HT.out _).mono ?_
        rintro e w9 ⟨rfl, hB⟩
        have HB9 := Lib.hid (Below.next HB8.out hB)
        clear hB
        go_wp2_with fail
        refine (compare_any (loS s) (upS t) HLS.out HUS.out _).mono ?_
        rintro e w10 ⟨rfl, hB⟩
        rw [HLU.out]
        have HB10 := Lib.hid (Below.next HB9.out hB)
        clear hB
        go_wp2_with fail
        refine (known_any _ (HM.out.later HB10.out)).mono ?_
        rintro e w11 ⟨rfl, hB⟩
        have HB11 := Lib.hid (Below.next HB10.out hB)
        clear hB
        go_wp2_with fail
        go_ret
        exact ⟨rfl, HB11.out⟩
    refine way ?_
    have := HTR.out
    clear HA HTR HE HLU HX HY HZ HV hadd
    rcases Int.lt_or_le 0 x with h | h
    · exact .inl h
    · rcases Int.lt_or_le 0 y with h' | h'
      · rcases Int.lt_or_le x 0 with h2 | h2
        · exact .inr (.inr (.inl ⟨h2, h'⟩))
        · exact .inr (.inl ⟨by omega, h'⟩)
      · obtain ⟨g1, g2⟩ := this h h'
        rcases Int.lt_or_le z 0 with h3 | h3
        · rcases Int.lt_or_le x 0 with h2 | h2
          · exact .inr (.inr (.inr (.inr (.inl ⟨h2, h', h3⟩))))
          · exact .inr (.inr (.inr (.inl ⟨by omega, h', h3⟩)))
        · obtain ⟨k1, k2⟩ := g2 (by omega)
          exact .inr (.inr (.inr (.inr (.inr ⟨k1, k2, by omega⟩))))
end Go.Proofs.YtgoddihlonhibaaDoor
