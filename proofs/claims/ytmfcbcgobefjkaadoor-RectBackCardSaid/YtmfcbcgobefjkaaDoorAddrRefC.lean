/- The contract of the specification's reading of an address. -/
import Derived.Test.YtmfcbcgobefjkaaDoorAddrRefB
namespace Go.Proofs.YtmfcbcgobefjkaaDoor
open Go.RowKit AM
theorem retP' {a b c a' b' c' : Int} (h : a = a') (h' : b = b') (h'' : c = c') : Ending.returned (.tuple #[.agg #[.int .i64 a, .int .i64 b], .int .i64 c]) = .returned (.tuple #[.agg #[.int .i64 a', .int .i64 b'], .int .i64 c']) := by rw [h, h', h'']
theorem data_get (s : ByteArray) (k : Nat) (h : k < s.size) : s.data.toList[k]'(by simpa using h) = s[k]'h := rfl
theorem drop_snoc (s : ByteArray) (n k : Nat) (hn : n ≤ k) (h : k < s.size) : (s.data.toList.drop n).take (k + 1 - n) = (s.data.toList.drop n).take (k - n) ++ [s[k]'h] := by
  rw [show k + 1 - n = (k - n) + 1 by omega, List.take_succ_eq_append_getElem (by simp; omega)]
  congr 2
  rw [List.getElem_drop]
  simp only [show n + (k - n) = k by omega]
  exact data_get s k h
theorem kd_not2 {c : Int} (h : ¬ (48 ≤ c ∧ c ≤ 57)) : kd c ≠ 2 := by
  intro hk
  unfold kd at hk
  by_cases q1 : 97 ≤ c ∧ c ≤ 122
  · rw [if_pos q1] at hk; omega
  · by_cases q2 : 65 ≤ c ∧ c ≤ 90
    · rw [if_neg q1, if_pos q2] at hk; omega
    · rw [if_neg q1, if_neg q2, if_neg h] at hk; omega
theorem take_data (s : ByteArray) (n : Nat) : (s.extract 0 n).data.toList = s.data.toList.take n := by
  rw [ByteArray.data_extract, Array.toList_extract]; simp
set_option maxRecDepth 100000 in
set_option maxHeartbeats 1600000 in
theorem rparse_any (s : ByteArray) (hs : s.size ≤ 2000) (w : World) :
    Calls Tryd.prog 48 #[.string s] w fun e w' =>
      e = .returned (.tuple #[.agg #[.int .i64 (PZ s.data.toList).1, .int .i64 (PZ s.data.toList).2.1], .int .i64 (PZ s.data.toList).2.2]) ∧ Below w.heap.size w w' := by
  have hlen : s.data.toList.length = s.size := by simp
  have HLEN := Lib.hid hlen
  clear hlen
  go_enter Tryd.func48, Tryd.ntmps48
  go_wp2_with fail
  go_loop [4] (fun p => ∃ n : Nat, p = .int .i64 n ∧ n ≤ s.size ∧ AL (s.data.toList.take n)) (fun p => s.size - (intOf p).toNat)
  case atStart => exact ⟨0, rfl, Nat.zero_le _, fun _ h => by simp at h⟩
  case round =>
    obtain ⟨n, rfl, hn, ha⟩ := hrel
    have HA := Lib.hid ha
    clear ha
    by_cases hlt : n < s.size
    · have hc0 : 0 ≤ (s[n].toNat : Int) := by omega
      have hc1 : (s[n].toNat : Int) ≤ 255 := by have := s[n].toNat_lt; omega
      have HTS := Lib.hid (take_snoc s n hlt)
      have hG := data_get s n hlt
      have HG := Lib.hid hG
      clear hG
      by_cases hk1 : kd (s[n].toNat : Int) = 1
      · have HAN : Hid (AL (s.data.toList.take (n + 1))) := by unfold Hid; rw [HTS.out]; exact HA.out.add hk1
        have HK := Lib.hid (lv_1 hk1)
        have hm : 0 < nm (s[n].toNat : Int) := by have := kd_cases (s[n].toNat : Int); omega
        clear hk1
        go_wp2_with fail
        refine (rletter_any _ hc0 hc1 _).mono ?_
        rintro e w' ⟨rfl, rfl⟩
        rw [HK.out]
        go_wp2_with fail
        go_round
        case rel => exact ⟨n + 1, by go_num, by omega, HAN.out⟩
        case measure => simp [intOf]; omega
      · have HK := Lib.hid (lv_0 hk1)
        have Hk1 := Lib.hid hk1
        clear hk1
        go_wp2_with fail
        refine (rletter_any _ hc0 hc1 _).mono ?_
        rintro e w' ⟨rfl, rfl⟩
        rw [HK.out]
        by_cases h0 : n = 0
        · subst h0
          have HZ : Hid (PZ s.data.toList = (0, 0, 4)) := PZ_zero (Or.inr ⟨by rw [HLEN.out]; exact hlt, by rw [HG.out]; exact Hk1.out⟩)
          go_wp2_with fail
          exact bodyPost_ret (v := .tuple #[.agg #[.int .i64 0, .int .i64 0], .int .i64 4]) (by simp [results, Tryd.results48, go_sem]) rfl
            ⟨retP' (by rw [HZ.out]) (by rw [HZ.out]) (by rw [HZ.out]), (Below.refl _ _).alloc (Nat.le_refl _) _⟩
        · have e0 : ((n : Int) == 0) = false := by rw [beq_eq_false_iff_ne]; omega
          have e1 : ((n : Int) == (s.size : Int)) = false := by rw [beq_eq_false_iff_ne]; omega
          by_cases h48 : (s[n].toNat : Int) = 48
          · have HZ : Hid (PZ s.data.toList = (0, 0, 4)) := PZ_lead0 HA.out (by rw [HLEN.out]; exact hlt) (by rw [HG.out, h48]; decide) (by rw [HG.out, h48]; decide)
            have e2 : ((s[n].toNat : Int) == 48) = true := by rw [beq_iff_eq]; exact h48
            clear h48
            go_wp2_with fail
            exact bodyPost_ret (v := .tuple #[.agg #[.int .i64 0, .int .i64 0], .int .i64 4]) (by simp [results, Tryd.results48, go_sem]) rfl
              ⟨retP' (by rw [HZ.out]) (by rw [HZ.out]) (by rw [HZ.out]), (Below.refl _ _).alloc (Nat.le_refl _) _⟩
          · have e2 : ((s[n].toNat : Int) == 48) = false := by rw [beq_eq_false_iff_ne]; exact h48
            have H48 := Lib.hid h48
            clear h48
            go_wp2_with fail
            go_loop [5, 6] (fun r i => ∃ k : Nat, n ≤ k ∧ k ≤ s.size ∧ i = .int .i64 k ∧ r = .int .i64 (v10 1025 ((s.data.toList.drop n).take (k - n))) ∧ AD ((s.data.toList.drop n).take (k - n))) (fun _ i => s.size - (intOf i).toNat)
            case atStart => exact ⟨n, Nat.le_refl _, hn, rfl, by rw [Nat.sub_self]; rfl, by rw [Nat.sub_self]; exact fun _ h => by simp at h⟩
            case round =>
              obtain ⟨k, hnk, hks, rfl, rfl, hd⟩ := hrel
              have HD := Lib.hid hd
              have hv := v10_bd 1025 (by omega) ((s.data.toList.drop n).take (k - n))
              obtain ⟨hv0, hv1⟩ := hv
              clear hd
              by_cases hkl : k < s.size
              · have HDS := Lib.hid (drop_snoc s n k hnk hkl)
                have HN : Hid (v10 1025 ((s.data.toList.drop n).take (k + 1 - n)) = if 1025 < 10 * v10 1025 ((s.data.toList.drop n).take (k - n)) + nm (s[k].toNat : Int) then 1025 else 10 * v10 1025 ((s.data.toList.drop n).take (k - n)) + nm (s[k].toNat : Int)) := by
                  unfold Hid; rw [HDS.out, v10_next]
                have HGk := Lib.hid (data_get s k hkl)
                have hb0 : 0 ≤ (s[k].toNat : Int) := by omega
                have hb1 : (s[k].toNat : Int) ≤ 255 := by have := s[k].toNat_lt; omega
                by_cases hk2 : 48 ≤ (s[k].toNat : Int) ∧ (s[k].toNat : Int) ≤ 57
                · have HK2 : Hid (kd (s[k].toNat : Int) = 2) := by unfold Hid kd; rw [if_neg (by omega), if_neg (by omega), if_pos hk2]
                  have HM : Hid (nm (s[k].toNat : Int) = (s[k].toNat : Int) - 48) := by unfold Hid nm; rw [if_neg (by omega), if_neg (by omega), if_pos hk2]
                  have HAN : Hid (AD ((s.data.toList.drop n).take (k + 1 - n))) := by unfold Hid; rw [HDS.out]; exact HD.out.add HK2.out
                  obtain ⟨d0, d1⟩ := hk2
                  go_wp2_with fail
                  go_round
                  case rel => exact ⟨k + 1, by omega, by omega, by go_num, by rw [HN.out, HM.out], HAN.out⟩
                  case measure => simp [intOf]; omega
                · have hk3 : kd (s[k].toNat : Int) ≠ 2 := kd_not2 hk2
                  have HZ : Hid (PZ s.data.toList = (0, 0, 4)) := PZ_other (n := n) (i := k) (by rw [HLEN.out]; exact hlt) (by rw [HG.out]; exact Hk1.out) (by rw [HLEN.out]; exact hkl) hnk (by rw [HGk.out]; exact hk3)
                  clear hk3
                  rcases Int.lt_or_le (s[k].toNat : Int) 48 with hlo | hlo
                  · clear hk2
                    go_wp2_with fail
                    exact bodyPost_ret (v := .tuple #[.agg #[.int .i64 0, .int .i64 0], .int .i64 4]) (by simp [results, Tryd.results48, go_sem]) rfl
                      ⟨retP' (by rw [HZ.out]) (by rw [HZ.out]) (by rw [HZ.out]), (Below.refl _ _).alloc (Nat.le_refl _) _⟩
                  · have hhi : 57 < (s[k].toNat : Int) := by omega
                    clear hk2
                    go_wp2_with fail
                    exact bodyPost_ret (v := .tuple #[.agg #[.int .i64 0, .int .i64 0], .int .i64 4]) (by simp [results, Tryd.results48, go_sem]) rfl
                      ⟨retP' (by rw [HZ.out]) (by rw [HZ.out]) (by rw [HZ.out]), (Below.refl _ _).alloc (Nat.le_refl _) _⟩
              · have ht : (s.data.toList.drop n).take (k - n) = s.data.toList.drop n := List.take_of_length_le (by rw [List.length_drop, HLEN.out]; omega)
                rw [ht] at HD hv0 hv1 ⊢
                clear ht
                have hlead : Lead (s.data.toList.drop n) := by
                  have hk2 : kd (s[n].toNat : Int) = 2 := by
                    refine HD.out _ ?_
                    rw [← HG.out, List.drop_eq_getElem_cons (by rw [HLEN.out]; exact hlt)]
                    exact List.mem_cons_self
                  refine Lead_drop (by rw [HLEN.out]; exact hlt) (by rw [HG.out]; exact hk2) (by
                    rw [HG.out]
                    have h48 := H48.out
                    unfold nm; unfold kd at hk2
                    by_cases q1 : 97 ≤ (s[n].toNat : Int) ∧ (s[n].toNat : Int) ≤ 122
                    · rw [if_pos q1] at hk2; omega
                    · by_cases q2 : 65 ≤ (s[n].toNat : Int) ∧ (s[n].toNat : Int) ≤ 90
                      · rw [if_neg q1, if_pos q2] at hk2; omega
                      · by_cases q3 : 48 ≤ (s[n].toNat : Int) ∧ (s[n].toNat : Int) ≤ 57
                        · rw [if_neg q1, if_neg q2, if_pos q3]; omega
                        · rw [if_neg q1, if_neg q2, if_neg q3] at hk2; omega)
                have HP := Lib.hid (PZ_parts HA.out (by omega) (by rw [HLEN.out]; exact hlt) HD.out hlead)
                clear hlead
                generalize v10 1025 (s.data.toList.drop n) = r at *
                go_wp2_with fail
                have hs2 : (s.extract 0 n).size ≤ 2000 := by simp; omega
                refine (rcolumn_any (s.extract 0 n) hs2 _).mono ?_
                rintro e w' ⟨rfl, rfl⟩
                rw [take_data]
                have hcz : (CZ (s.data.toList.take n)).2 = 0 ∨ (CZ (s.data.toList.take n)).2 = 3 := by
                  have hne : s.data.toList.take n ≠ [] := by intro h; have := congrArg List.length h; rw [List.length_take, List.length_nil, HLEN.out] at this; omega
                  rw [CZ_letters HA.out hne]; split
                  · right; rfl
                  · left; rfl
                generalize CZ (s.data.toList.take n) = cz at *
                obtain ⟨cv, ce⟩ := cz
                dsimp only at hcz HP ⊢
                rcases hcz with rfl | rfl
                · rcases Int.lt_or_le 1024 r with h1 | h1
                  · have HZ : Hid (PZ s.data.toList = (0, 0, 3)) := by unfold Hid; rw [HP.out, if_neg (by decide), if_pos h1]
                    go_wp2_with fail
                    exact bodyPost_ret (v := .tuple #[.agg #[.int .i64 0, .int .i64 0], .int .i64 3]) (by simp [results, Tryd.results48, go_sem]) rfl
                      ⟨retP' (by rw [HZ.out]) (by rw [HZ.out]) (by rw [HZ.out]), (Below.refl _ _).alloc (Nat.le_refl _) _⟩
                  · have HZ : Hid (PZ s.data.toList = (cv, r, 0)) := by unfold Hid; rw [HP.out, if_neg (by decide), if_neg (by omega)]
                    go_wp2_with fail
                    exact bodyPost_ret (v := .tuple #[.agg #[.int .i64 cv, .int .i64 r], .int .i64 0]) (by simp [results, Tryd.results48, go_sem]) rfl
                      ⟨retP' (by rw [HZ.out]) (by rw [HZ.out]) (by rw [HZ.out]), (Below.refl _ _).alloc (Nat.le_refl _) _⟩
                · have HZ : Hid (PZ s.data.toList = (0, 0, 3)) := by unfold Hid; rw [HP.out, if_pos (by decide)]
                  go_wp2_with fail
                  exact bodyPost_ret (v := .tuple #[.agg #[.int .i64 0, .int .i64 0], .int .i64 3]) (by simp [results, Tryd.results48, go_sem]) rfl
                    ⟨retP' (by rw [HZ.out]) (by rw [HZ.out]) (by rw [HZ.out]), (Below.refl _ _).alloc (Nat.le_refl _) _⟩
    · obtain rfl : n = s.size := by omega
      have HZ : Hid (PZ s.data.toList = (0, 0, 4)) := by
        unfold Hid; refine PZ_all ?_; have := HA.out; rwa [List.take_of_length_le (by rw [HLEN.out]; exact Nat.le_refl _)] at this
      by_cases h0 : s.size = 0
      · have e0 : ((s.size : Int) == 0) = true := by rw [beq_iff_eq]; omega
        clear h0
        go_wp2_with fail
        exact bodyPost_ret (v := .tuple #[.agg #[.int .i64 0, .int .i64 0], .int .i64 4]) (by simp [results, Tryd.results48, go_sem]) rfl
          ⟨retP' (by rw [HZ.out]) (by rw [HZ.out]) (by rw [HZ.out]), (Below.refl _ _).alloc (Nat.le_refl _) _⟩
      · have e0 : ((s.size : Int) == 0) = false := by rw [beq_eq_false_iff_ne]; omega
        clear h0
        go_wp2_with fail
        exact bodyPost_ret (v := .tuple #[.agg #[.int .i64 0, .int .i64 0], .int .i64 4]) (by simp [results, Tryd.results48, go_sem]) rfl
          ⟨retP' (by rw [HZ.out]) (by rw [HZ.out]) (by rw [HZ.out]), (Below.refl _ _).alloc (Nat.le_refl _) _⟩
end Go.Proofs.YtmfcbcgobefjkaaDoor
