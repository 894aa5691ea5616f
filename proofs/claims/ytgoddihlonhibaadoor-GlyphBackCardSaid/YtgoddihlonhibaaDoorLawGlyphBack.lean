/- GlyphBack: a literal is read as its text, and what is read is written as the literal again. -/
import Derived.Test.YtgoddihlonhibaaDoorGlyphKnown
namespace Go.Proofs.YtgoddihlonhibaaDoor
open Go.RowKit GM
theorem quoS_len {l : List UInt8} : (quoS l).length ≤ 514 := by
  by_cases h : chk l = 0
  · rw [quoS_yes h]
    have h1 := chk_z h
    have h2 := (quo_len l).2
    simp only [List.length_cons, List.length_append, List.length_nil]; omega
  · rw [quoS_no h]; simp
theorem chk_0 {l : List UInt8} (h : chk l = 0) : l.length ≤ 256 ∧ plain l = true := by
  refine ⟨chk_z h, ?_⟩
  cases hp : plain l with
  | true => rfl
  | false => rw [chk_form (by have := chk_z h; omega) hp] at h; cases h
theorem inner_quo (q : List UInt8) : inner (34 :: (q ++ [34])) = q := by unfold inner; simp
theorem unqS_quoS {l : List UInt8} (h : chk l = 0) : unqS (quoS l) = (l, 0) := by
  obtain ⟨h1, h2⟩ := chk_0 h
  rw [quoS_yes h]
  have hp : plain (34 :: (quo l ++ [34])) = true := by rw [plain_cons, plain_app, plain_quo, h2]; rfl
  have hok : okU (34 :: (quo l ++ [34])) = true := by
    unfold okU
    rw [hp]
    have e : (34 :: (quo l ++ [34])).getD ((34 :: (quo l ++ [34])).length - 1) 0 = 34 := by simp [List.getD]
    rw [e]; simp
  exact unqS_yes hok (by rw [inner_quo]; exact unq_quo l) (by omega)
theorem okU_inner {l : List UInt8} (h : okU l = true) : l = 34 :: (inner l ++ [34]) ∧ plain l = true := by
  unfold okU at h
  simp only [Bool.and_eq_true, decide_eq_true_eq, beq_iff_eq] at h
  obtain ⟨⟨⟨h1, h2⟩, h3⟩, h4⟩ := h
  refine ⟨?_, h4⟩
  match l, h1, h2, h3 with
  | a :: m, h1, h2, h3 =>
    simp at h2
    subst h2
    rcases List.eq_nil_or_concat m with rfl | ⟨m', x, rfl⟩
    · simp at h1
    · rw [List.concat_eq_append] at *
      have hx : x = 34 := by simpa [List.getD] using h3
      subst hx
      rw [inner_quo]
theorem quoS_unqS {l : List UInt8} (h : (unqS l).2 = 0) : quoS (unqS l).1 = l ∧ chk (unqS l).1 = 0 := by
  cases ho : okU l with
  | false => rw [unqS_bad ho] at h; cases h
  | true =>
    obtain ⟨h1, h2⟩ := okU_inner ho
    cases hu : unq (inner l) with
    | none => rw [unqS_none ho hu] at h; cases h
    | some u =>
      by_cases hl : 256 < u.length
      · rw [unqS_long ho hu hl] at h; cases h
      · rw [unqS_yes ho hu hl]
        have hq := quo_unq _ (inner l) u (Nat.le_refl _) hu
        have hp : plain u = true := by
          rw [← plain_quo, hq]
          rw [h1, plain_cons, plain_app] at h2
          simp only [Bool.and_eq_true] at h2
          exact h2.2.1
        have hc : chk u = 0 := chk_ok hl hp
        exact ⟨by rw [quoS_yes hc, hq, ← h1], hc⟩
theorem unqS_len (l : List UInt8) : (unqS l).1.length ≤ 256 := by
  unfold unqS
  split
  · split
    · simp
    · split
      · simp
      · simp; omega
  · simp
set_option maxRecDepth 100000 in
set_option maxHeartbeats 3200000 in
theorem glyphBack_any (s t : ByteArray) (w : World) (hs : s.size ≤ maxLen) (ht : t.size ≤ maxLen) (hM : ML w) :
    Calls Tryd.prog 6 #[.string s, .string t] w fun e w' => e = .returned (.bool true) ∧ Below w.heap.size w w' := by
  have HS := Lib.hid hs
  have HT := Lib.hid ht
  have HM := Lib.hid hM
  clear hM
  unfold maxLen at hs ht
  by_cases h : 600 < s.size
  · go_enter Tryd.func6, Tryd.ntmps6
    go_wp2_with fail
    refine (known_any _ HM.out).mono ?_
    rintro e w1 ⟨rfl, hB1⟩
    have HB1 := Lib.hid hB1
    clear hB1
    go_wp2_with fail
    go_ret
    exact ⟨rfl, HB1.out⟩
  · by_cases h2 : 600 < t.size
    · go_enter Tryd.func6, Tryd.ntmps6
      go_wp2_with fail
      refine (known_any _ HM.out).mono ?_
      rintro e w1 ⟨rfl, hB1⟩
      have HB1 := Lib.hid hB1
      clear hB1
      go_wp2_with fail
      go_ret
      exact ⟨rfl, HB1.out⟩
    · have HS4 : Hid (s.size ≤ 4000) := by unfold Hid; omega
      have HT4 : Hid (t.size ≤ 4000) := by unfold Hid; omega
      have HQ4 : Hid ((str (quoS s.data.toList)).size ≤ 4000) := by unfold Hid; rw [str_size]; have := quoS_len (l := s.data.toList); omega
      have HU4 : Hid ((str (unqS t.data.toList).1).size ≤ 4000) := by unfold Hid; rw [str_size]; have := unqS_len t.data.toList; omega
      have HUU : Hid ((unqS t.data.toList).2 = 0 → quoS (unqS t.data.toList).1 = t.data.toList ∧ chk (unqS t.data.toList).1 = 0) := quoS_unqS
      have HUQ : Hid (chk s.data.toList = 0 → unqS (quoS s.data.toList) = (s.data.toList, 0)) := unqS_quoS
      by_cases hc : chk s.data.toList = 0
      all_goals
        have HC := Lib.hid hc
        by_cases hu : (unqS t.data.toList).2 = 0
      all_goals
        have HU := Lib.hid hu
        clear hc hu
      · go_enter Tryd.func6, Tryd.ntmps6
        go_wp2_with fail
        refine (quote_any s HS4.out _ HM.out).mono ?_
        rintro e w1 ⟨rfl, hB⟩
        rw [HC.out]
        have HB1 := Lib.hid hB
        clear hB
        go_wp2_with fail
        refine (unquote_any (str (quoS s.data.toList)) HQ4.out _).mono ?_
        rintro e w2 ⟨rfl, hB⟩
        rw [str_data, HUQ.out HC.out]
        dsimp only
        rw [str_of]
        have HB2 := Lib.hid (Below.next HB1.out hB)
        clear hB
        go_wp2_with fail
        refine (check_any s HS.out _).mono ?_
        rintro e w3 ⟨rfl, rfl⟩
        rw [HC.out]
        go_wp2_with fail
        refine (unquote_any t HT4.out _).mono ?_
        rintro e w3 ⟨rfl, hB⟩
        rw [HU.out]
        have HB3 := Lib.hid (Below.next HB2.out hB)
        clear hB
        go_wp2_with fail
        refine (quote_any (str (unqS t.data.toList).1) HU4.out _ (HM.out.later HB3.out)).mono ?_
        rintro e w4 ⟨rfl, hB⟩
        rw [str_data, (HUU.out HU.out).1, (HUU.out HU.out).2, str_of]
        have HB4 := Lib.hid (Below.next HB3.out hB)
        clear hB
        go_wp2_with fail
        refine (known_any _ (HM.out.later HB4.out)).mono ?_
        rintro e w5 ⟨rfl, hB⟩
        have HB5 := Lib.hid (Below.next HB4.out hB)
        clear hB
        go_wp2_with fail
        go_ret
        exact ⟨rfl, HB5.out⟩
      · go_enter Tryd.func6, Tryd.ntmps6
        go_wp2_with fail
        refine (quote_any s HS4.out _ HM.out).mono ?_
        rintro e w1 ⟨rfl, hB⟩
        rw [HC.out]
        have HB1 := Lib.hid hB
        clear hB
        go_wp2_with fail
        refine (unquote_any (str (quoS s.data.toList)) HQ4.out _).mono ?_
        rintro e w2 ⟨rfl, hB⟩
        rw [str_data, HUQ.out HC.out]
        dsimp only
        rw [str_of]
        have HB2 := Lib.hid (Below.next HB1.out hB)
        clear hB
        go_wp2_with fail
        refine (check_any s HS.out _).mono ?_
        rintro e w3 ⟨rfl, rfl⟩
        rw [HC.out]
        go_wp2_with fail
        refine (unquote_any t HT4.out _).mono ?_
        rintro e w3 ⟨rfl, hB⟩
        have HB3 := Lib.hid (Below.next HB2.out hB)
        clear hB
        have hu := HU.out
        go_wp2_with fail
        refine (known_any _ (HM.out.later HB3.out)).mono ?_
        rintro e w5 ⟨rfl, hB⟩
        have HB5 := Lib.hid (Below.next HB3.out hB)
        clear hB
        go_wp2_with fail
        go_ret
        exact ⟨rfl, HB5.out⟩
      · go_enter Tryd.func6, Tryd.ntmps6
        go_wp2_with fail
        refine (quote_any s HS4.out _ HM.out).mono ?_
        rintro e w1 ⟨rfl, hB⟩
        have HB2 := Lib.hid hB
        clear hB
        have hc := HC.out
        go_wp2_with fail
        refine (check_any s HS.out _).mono ?_
        rintro e w3 ⟨rfl, rfl⟩
        go_wp2_with fail
        refine (unquote_any t HT4.out _).mono ?_
        rintro e w3 ⟨rfl, hB⟩
        rw [HU.out]
        have HB3 := Lib.hid (Below.next HB2.out hB)
        clear hB
        go_wp2_with fail
        refine (quote_any (str (unqS t.data.toList).1) HU4.out _ (HM.out.later HB3.out)).mono ?_
        rintro e w4 ⟨rfl, hB⟩
        rw [str_data, (HUU.out HU.out).1, (HUU.out HU.out).2, str_of]
        have HB4 := Lib.hid (Below.next HB3.out hB)
        clear hB
        go_wp2_with fail
        refine (known_any _ (HM.out.later HB4.out)).mono ?_
        rintro e w5 ⟨rfl, hB⟩
        have HB5 := Lib.hid (Below.next HB4.out hB)
        clear hB
        go_wp2_with fail
        go_ret
        exact ⟨rfl, HB5.out⟩
      · go_enter Tryd.func6, Tryd.ntmps6
        go_wp2_with fail
        refine (quote_any s HS4.out _ HM.out).mono ?_
        rintro e w1 ⟨rfl, hB⟩
        have HB2 := Lib.hid hB
        clear hB
        have hc := HC.out
        go_wp2_with fail
        refine (check_any s HS.out _).mono ?_
        rintro e w3 ⟨rfl, rfl⟩
        go_wp2_with fail
        refine (unquote_any t HT4.out _).mono ?_
        rintro e w3 ⟨rfl, hB⟩
        have HB3 := Lib.hid (Below.next HB2.out hB)
        clear hB
        have hu := HU.out
        go_wp2_with fail
        refine (known_any _ (HM.out.later HB3.out)).mono ?_
        rintro e w5 ⟨rfl, hB⟩
        have HB5 := Lib.hid (Below.next HB3.out hB)
        clear hB
        go_wp2_with fail
        go_ret
        exact ⟨rfl, HB5.out⟩
end Go.Proofs.YtgoddihlonhibaaDoor
