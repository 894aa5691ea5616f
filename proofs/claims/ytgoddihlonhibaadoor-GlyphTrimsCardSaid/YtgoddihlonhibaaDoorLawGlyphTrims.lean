/- GlyphTrims: Trim has no two blanks in a row and none at its ends, keeps all other bytes, and is idempotent. -/
import Derived.Test.YtgoddihlonhibaaDoorGlyphKnown
import Derived.Test.YtgoddihlonhibaaDoorGlyphWithout
import Derived.BigQuiet
namespace Go.Proofs.YtgoddihlonhibaaDoor
open Go.RowKit GM
theorem more_eq (s : ByteArray) : ((⟨#[32]⟩ : ByteArray) ++ s ++ ⟨#[32, 32]⟩).data.toList = 32 :: (s.data.toList ++ [32, 32]) := by simp
theorem drewN_below {B : Nat} {a w : World} (h : Below B a w) (n : Nat) : Below B a (w.drewN n) := ⟨h.os, h.tape, h.output, h.size, h.block⟩
/-- Where the walk along both texts stands: k bytes of t belong to the first i of s. -/
theorem walk_next (s t : ByteArray) (ht : t.data.toList = trim s.data.toList) (i : Nat) (h : i < s.size) (hc : s[i] ≠ 32) (k : Nat) (hk : k = (tr false false (s.data.toList.take i)).length) :
    (k ≠ 0 ∧ lastN true (s.data.toList.take i) = false → (tr false false (s.data.toList.take (i + 1))).length = k + 2 ∧ ∃ (h0 : k < t.size) (h1 : k + 1 < t.size), t[k]'h0 = 32 ∧ t[k + 1]'h1 = s[i]'h) ∧
    (¬ (k ≠ 0 ∧ lastN true (s.data.toList.take i) = false) → (tr false false (s.data.toList.take (i + 1))).length = k + 1 ∧ ∃ h1 : k < t.size, t[k]'h1 = s[i]'h) := by
  have hn := tr_next s i h
  rw [if_neg hc] at hn
  obtain ⟨r, hr⟩ := tr_pre false false (s.data.toList.take (i + 1)) (s.data.toList.drop (i + 1))
  rw [List.take_append_drop] at hr
  have hT : t.data.toList = tr false false (s.data.toList.take (i + 1)) ++ r := by rw [ht]; exact hr
  have hlen : t.size = (tr false false (s.data.toList.take (i + 1))).length + r.length := by rw [← data_len, hT, List.length_append]
  have at' : ∀ (j : Nat) (hj : j < t.size), t[j] = t.data.toList[j]'(by rw [data_len]; exact hj) := fun j hj => rfl
  have hemp : (tr false false (s.data.toList.take i)).isEmpty = decide (k = 0) := by
    cases he : tr false false (s.data.toList.take i) with
    | nil => simp [hk, he]
    | cons => simp [hk, he]
  rw [hemp] at hn
  constructor
  · rintro ⟨h1, h2⟩
    rw [h2] at hn
    simp only [h1, decide_false, Bool.not_false, Bool.and_true, if_true] at hn
    have hl : (tr false false (s.data.toList.take (i + 1))).length = k + 2 := by rw [hn]; simp [hk]
    refine ⟨hl, by omega, by omega, ?_, ?_⟩
    · rw [at' k (by omega)]
      simp only [hT, hn]
      rw [List.getElem_append_left (by simp; omega), List.getElem_append_right (by omega)]
      simp [hk]
    · rw [at' (k + 1) (by omega)]
      simp only [hT, hn]
      rw [List.getElem_append_left (by simp; omega), List.getElem_append_right (by omega)]
      simp [hk]
  · intro h1
    have hb : ((!decide (k = 0)) && !lastN true (s.data.toList.take i)) = false := by
      by_cases h0 : k = 0
      · simp [h0]
      · have : ¬ lastN true (s.data.toList.take i) = false := fun e => h1 ⟨h0, e⟩
        simp only [Bool.not_eq_false] at this
        rw [this]; simp
    rw [hb] at hn
    simp only [Bool.false_eq_true, if_false] at hn
    have hl : (tr false false (s.data.toList.take (i + 1))).length = k + 1 := by rw [hn]; simp [hk]
    refine ⟨hl, by omega, ?_⟩
    rw [at' k (by omega)]
    simp only [hT, hn]
    rw [List.getElem_append_left (by simp; omega), List.getElem_append_right (by omega)]
    simp [hk]
theorem tr_blank (s : ByteArray) (i : Nat) (h : i < s.size) (hc : s[i] = 32) : tr false false (s.data.toList.take (i + 1)) = tr false false (s.data.toList.take i) := by
  rw [tr_next s i h, if_pos hc]; simp
set_option maxRecDepth 100000 in
set_option maxHeartbeats 12800000 in
theorem glyphTrims_any (s : ByteArray) (w : World) (hs : s.size ≤ maxLen) (hM : ML w) :
    Calls Tryd.prog 8 #[.string s] w fun e w' => e = .returned (.bool true) ∧ Below w.heap.size w w' := by
  have HS := Lib.hid hs
  have HM := Lib.hid hM
  clear hM
  unfold maxLen at hs
  by_cases h : 600 < s.size
  · go_enter Tryd.func8, Tryd.ntmps8
    go_wp2_with fail
    refine (known_any _ HM.out).mono ?_
    rintro e w1 ⟨rfl, hB1⟩
    have HB1 := Lib.hid hB1
    clear hB1
    go_wp2_with fail
    go_ret
    exact ⟨rfl, HB1.out⟩
  · obtain ⟨t, ht⟩ : ∃ t, t = str (trim s.data.toList) := ⟨_, rfl⟩
    have hd : t.data.toList = trim s.data.toList := by rw [ht, str_data]
    have HT := Lib.hid ht
    have HD := Lib.hid hd
    have htz : t.size ≤ 1200 := by rw [ht, str_size]; have := tr_len false false s.data.toList; rw [data_len] at this; unfold trim; omega
    have E1 : Hid (str (trim t.data.toList) = t) := by unfold Hid; rw [hd, trim_trim, ← ht]
    have E2 : Hid (str (fil t.data.toList) = str (fil s.data.toList)) := by unfold Hid; rw [hd]; unfold trim; rw [fil_tr]
    have E3 : Hid (str (trim (upS s).data.toList) = upS t) := by unfold Hid; unfold upS; rw [str_data, trim_up, hd]
    have E4 : Hid (str (trim ((⟨#[32]⟩ : ByteArray) ++ s ++ ⟨#[32, 32]⟩).data.toList) = t) := by unfold Hid; rw [more_eq, trim_more, ← ht]
    have HS4 : Hid (s.size ≤ 4000) := by unfold Hid; omega
    have HT4 : Hid (t.size ≤ 4000) := by unfold Hid; omega
    have HTM : Hid (t.size ≤ maxLen) := by unfold Hid maxLen; omega
    have HU4 : Hid ((upS s).size ≤ 4000) := by unfold Hid; rw [upS_size]; omega
    have HM4 : Hid (((⟨#[32]⟩ : ByteArray) ++ s ++ ⟨#[32, 32]⟩).size ≤ 4000) := by
      unfold Hid; rw [ByteArray.size_append, ByteArray.size_append, show (⟨#[32]⟩ : ByteArray).size = 1 from rfl, show (⟨#[32, 32]⟩ : ByteArray).size = 2 from rfl]; omega
    clear ht hd
    go_enter Tryd.func8, Tryd.ntmps8
    go_wp2_with fail
    refine (trim_any s HS4.out _).mono ?_
    rintro e w1 ⟨rfl, hB⟩
    rw [← HT.out]
    have HB1 := Lib.hid hB
    clear hB
    go_wp2_with fail
    refine (trim_any t HT4.out _).mono ?_
    rintro e w2 ⟨rfl, hB⟩
    rw [E1.out]
    have HB2 := Lib.hid (Below.next HB1.out hB)
    clear hB
    go_wp2_with fail
    refine (without_any t HT4.out _).mono ?_
    rintro e w3 ⟨rfl, hB⟩
    rw [E2.out]
    have HB3 := Lib.hid (Below.next HB2.out hB)
    clear hB
    go_wp2_with fail
    refine (without_any s HS4.out _).mono ?_
    rintro e w4 ⟨rfl, hB⟩
    have HB4 := Lib.hid (Below.next HB3.out hB)
    clear hB
    go_wp2_with fail
    refine (upper_any t HTM.out _).mono ?_
    rintro e w5 ⟨rfl, hB⟩
    have HB5 := Lib.hid (Below.next HB4.out hB)
    clear hB
    go_wp2_with fail
    refine (upper_any s HS.out _).mono ?_
    rintro e w6 ⟨rfl, hB⟩
    have HB6 := Lib.hid (Below.next HB5.out hB)
    clear hB
    go_wp2_with fail
    refine (trim_any (upS s) HU4.out _).mono ?_
    rintro e w7 ⟨rfl, hB⟩
    rw [E3.out]
    have HB7 := Lib.hid (Below.next HB6.out hB)
    clear hB
    have a1 := fun W => run_string_add_sum (P := Tryd.prog) W ⟨#[32]⟩ s (by rw [show (⟨#[32]⟩ : ByteArray).size = 1 from rfl]; omega)
    have a2 := fun W => run_string_add_sum (P := Tryd.prog) W (⟨#[32]⟩ ++ s) ⟨#[32, 32]⟩ (by rw [ByteArray.size_append, show (⟨#[32]⟩ : ByteArray).size = 1 from rfl, show (⟨#[32, 32]⟩ : ByteArray).size = 2 from rfl]; omega)
    go_wp2_with fail
    clear a1 a2
    refine (trim_any _ HM4.out _).mono ?_
    rintro e w8 ⟨rfl, hB⟩
    rw [E4.out]
    have HB8 := Lib.hid (Below.next HB7.out hB)
    clear hB
    go_wp2_with fail
    go_loop [4] (fun i => ∃ k : Nat, k ≤ t.size ∧ i = .int .i64 k) (fun i => t.size - (intOf i).toNat)
    case atStart => exact ⟨0, Nat.zero_le _, rfl⟩
    case round =>
      obtain ⟨k, hk, rfl⟩ := hrel
      by_cases hlt : k < t.size
      · by_cases hc : (t[k].toNat : Int) = 32
        · have hh := trim_at s.data.toList k (by rw [← HD.out, data_len]; exact hlt) (by
            have := data_get t k hlt
            have e2 := byte_eq _ hc
            rw [← this] at e2
            simpa only [HD.out] using e2)
          obtain ⟨h0, h1, h2⟩ := hh
          rw [← HD.out, data_len] at h1
          have h3 := h2 h0
          have hk1 : k - 1 < t.size := by omega
          have hne : ¬ (t[k - 1].toNat : Int) = 32 := fun e => h3 (by
            have := data_get t (k - 1) hk1
            have e2 := byte_eq _ e
            rw [← this] at e2
            simpa only [HD.out] using e2)
          clear h2 h3
          have b1 : ((k : Int) == 0) = false := by rw [beq_eq_false_iff_ne]; omega
          have b2 : ((k : Int) == (t.size : Int) - 1) = false := by rw [beq_eq_false_iff_ne]; omega
          have b3 : ((t[k - 1].toNat : Int) == 32) = false := by rw [beq_eq_false_iff_ne]; exact hne
          have hi1 : (k : Int) - 1 = ((k - 1 : Nat) : Int) := by omega
          go_wp2_with fail
          go_round
          case rel => exact ⟨k + 1, by omega, by go_num⟩
          case measure => simp [intOf]; omega
        · go_wp2_with fail
          go_round
          case rel => exact ⟨k + 1, by omega, by go_num⟩
          case measure => simp [intOf]; omega
      · obtain rfl : k = t.size := by omega
        go_wp2_with fail
        go_loopw [5, 6] (fun k i wr => ∃ n : Nat, n ≤ s.size ∧ i = .int .i64 n ∧ k = .int .i64 ((tr false false (s.data.toList.take n)).length : Nat) ∧ Below w.heap.size w wr) (fun _ i _ => s.size - (intOf i).toNat)
        case atStart => exact ⟨0, Nat.zero_le _, rfl, rfl, HB8.out⟩
        case round =>
          obtain ⟨n, hn, rfl, rfl, hB⟩ := hrel
          have HB := Lib.hid hB
          clear hB
          by_cases hlt : n < s.size
          · by_cases hc : (s[n].toNat : Int) = 32
            · have HE := Lib.hid (tr_blank s n hlt (byte_eq _ hc))
              generalize hk : (tr false false (s.data.toList.take n)).length = k
              have HK := Lib.hid hk
              clear hk
              go_wp2_with fail
              go_roundw
              case rel => exact ⟨n + 1, by omega, by go_num, by rw [HE.out, HK.out], HB.out⟩
              case measure => simp [intOf]; omega
            · have hkl : (tr false false (s.data.toList.take n)).length ≤ 2 * n := by have := tr_len false false (s.data.toList.take n); simp at this; omega
              have hk0 : Hid (n = 0 → (tr false false (s.data.toList.take n)).length = 0) := fun e => by subst e; rfl
              have HL : Hid (0 < n → lastN true (s.data.toList.take n) = (s[n - 1]'(by omega) != 32)) := fun h0 => by
                have := lastT_at s (n - 1) (by omega)
                rwa [show n - 1 + 1 = n by omega] at this
              generalize hk : (tr false false (s.data.toList.take n)).length = k at *
              have HW := Lib.hid (walk_next s t HD.out n hlt (byte_ne _ hc) k hk.symm)
              clear hk
              by_cases h0 : n = 0
              · have hk := hk0.out h0
                obtain ⟨e1, e2, e3⟩ := HW.out.2 (fun h => h.1 hk)
                have HE := Lib.hid e1
                have e4 : (t[k].toNat : Int) = (s[n].toNat : Int) := by rw [e3]
                have hn0 : ¬ (0 : Int) < (n : Int) := by omega
                clear e1 e3 h0 hk
                have b0 : decide ((t.size : Int) ≤ (k : Int)) = false := decide_eq_false (by omega)
                have b0n : decide (t.size ≤ k) = false := decide_eq_false (by omega)
                have b1 : ((t[k].toNat : Int) != (s[n].toNat : Int)) = false := by rw [bne_eq_false_iff_eq]; exact e4
                clear e4
                go_wp2_with fail
                go_quiet (fail)
                go_wp2_with fail
                go_roundw
                case rel => exact ⟨n + 1, by omega, by go_num, by rw [HE.out]; go_num, drewN_below HB.out _⟩
                case measure => simp [intOf]; omega
              · have hn1 : n - 1 < s.size := by omega
                have hi1 : (n : Int) - 1 = ((n - 1 : Nat) : Int) := by omega
                have hn0 : (0 : Int) < (n : Int) := by omega
                have HLn := HL.out (by omega)
                by_cases hp : (s[n - 1].toNat : Int) = 32
                · have hl : lastN true (s.data.toList.take n) = false := by rw [HLn, byte_eq _ hp]; rfl
                  clear HLn
                  by_cases hk : k = 0
                  · obtain ⟨e1, e2, e3⟩ := HW.out.2 (fun h => h.1 hk)
                    have HE := Lib.hid e1
                    have e4 : (t[k].toNat : Int) = (s[n].toNat : Int) := by rw [e3]
                    have hk9 : ¬ (0 : Int) < (k : Int) := by omega
                    clear e1 e3 hl hk
                    have b0 : decide ((t.size : Int) ≤ (k : Int)) = false := decide_eq_false (by omega)
                    have b0n : decide (t.size ≤ k) = false := decide_eq_false (by omega)
                    have b1 : ((t[k].toNat : Int) != (s[n].toNat : Int)) = false := by rw [bne_eq_false_iff_eq]; exact e4
                    clear e4
                    go_wp2_with fail
                    go_quiet (fail)
                    go_wp2_with fail
                    go_roundw
                    case rel => exact ⟨n + 1, by omega, by go_num, by rw [HE.out]; go_num, drewN_below HB.out _⟩
                    case measure => simp [intOf]; omega
                  · obtain ⟨e1, _, e2, e3, e5⟩ := HW.out.1 ⟨hk, hl⟩
                    have HE := Lib.hid e1
                    have hkt : k < t.size := by omega
                    have hk0' : (0 : Int) < (k : Int) := by omega
                    have e3' : (t[k].toNat : Int) = 32 := by rw [e3]; rfl
                    have e4 : (t[k + 1].toNat : Int) = (s[n].toNat : Int) := by rw [e5]
                    clear e1 e3 e5 hl
                    have b3 : ((t[k].toNat : Int) != 32) = false := by rw [bne_eq_false_iff_eq]; exact e3'
                    have b2 : decide ((t.size : Int) ≤ (k : Int)) = false := decide_eq_false (by omega)
                    have b2n : decide (t.size ≤ k) = false := decide_eq_false (by omega)
                    have b0 : decide ((t.size : Int) ≤ (k : Int) + 1) = false := decide_eq_false (by omega)
                    have b0n : decide (t.size ≤ k + 1) = false := decide_eq_false (by omega)
                    have b1 : ((t[k + 1].toNat : Int) != (s[n].toNat : Int)) = false := by rw [bne_eq_false_iff_eq]; exact e4
                    clear e4 hk
                    go_wp2_with fail
                    have q1 : ((k : Int) + 1).toNat = k + 1 := by omega
                    have q2 : (0 : Int) ≤ (k : Int) + 1 := by omega
                    have q3 : (k : Int) + 1 < (t.size : Int) := by omega
                    go_quiet (fail)
                    go_wp2_with fail
                    go_roundw
                    case rel => exact ⟨n + 1, by omega, by go_num, by rw [HE.out]; go_num, drewN_below HB.out _⟩
                    case measure => simp [intOf]; omega
                · have hl : lastN true (s.data.toList.take n) = true := by
                    rw [HLn]; have := byte_ne _ hp; simpa using this
                  clear HLn
                  obtain ⟨e1, e2, e3⟩ := HW.out.2 (fun h => by rw [hl] at h; cases h.2)
                  have HE := Lib.hid e1
                  have e4 : (t[k].toNat : Int) = (s[n].toNat : Int) := by rw [e3]
                  clear e1 e3 hl
                  have b0 : decide ((t.size : Int) ≤ (k : Int)) = false := decide_eq_false (by omega)
                  have b0n : decide (t.size ≤ k) = false := decide_eq_false (by omega)
                  have b1 : ((t[k].toNat : Int) != (s[n].toNat : Int)) = false := by rw [bne_eq_false_iff_eq]; exact e4
                  have b2 : ((s[n - 1].toNat : Int) == 32) = false := by rw [beq_eq_false_iff_ne]; exact hp
                  clear e4
                  go_wp2_with fail
                  go_quiet (fail)
                  go_wp2_with fail
                  go_roundw
                  case rel => exact ⟨n + 1, by omega, by go_num, by rw [HE.out]; go_num, drewN_below HB.out _⟩
                  case measure => simp [intOf]; omega
          · obtain rfl : n = s.size := by omega
            have HE : Hid ((tr false false (s.data.toList.take s.size)).length = t.size) := by unfold Hid; rw [take_all, ← data_len t, HD.out]; rfl
            rw [HE.out]
            go_wp2_with fail
            refine (known_any _ (HM.out.later HB.out)).mono ?_
            rintro e w9 ⟨rfl, hB⟩
            have HB9 := Lib.hid (Below.next HB.out hB)
            clear hB
            go_wp2_with fail
            go_ret
            exact ⟨rfl, HB9.out⟩
end Go.Proofs.YtgoddihlonhibaaDoor
