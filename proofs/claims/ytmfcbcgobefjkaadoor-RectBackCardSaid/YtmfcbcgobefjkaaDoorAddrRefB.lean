/- Contracts of the specification's reading of columns and addresses. -/
import Derived.Test.YtmfcbcgobefjkaaDoorAddrRead
import Derived.Test.YtmfcbcgobefjkaaDoorAddrB
import Derived.Test.YtmfcbcgobefjkaaDoorAddrMathB
namespace Go.Proofs.YtmfcbcgobefjkaaDoor
open Go.RowKit AM
theorem retI {k : IntKind} {a b : Int} (h : a = b) : Ending.returned (.int k a) = .returned (.int k b) := by rw [h]
set_option maxHeartbeats 400000 in
theorem rletter_any (c : Int) (h0 : 0 ≤ c) (h1 : c ≤ 255) (w : World) :
    Calls Tryd.prog 54 #[.int .u8 c] w fun e w' => e = .returned (.int .i64 (lv c)) ∧ w = w' := by
  rcases Int.lt_or_le c 65 with a | a
  · have hk : Hid (lv c = 0) := lv_0 (by unfold kd; split <;> (try split) <;> (try split) <;> omega)
    go_enter Tryd.func54, Tryd.ntmps54
    go_wp2
    go_ret
    exact ⟨retI hk.out.symm, rfl⟩
  · rcases Int.lt_or_le 90 c with b | b
    · rcases Int.lt_or_le c 97 with d | d
      · have hk : Hid (lv c = 0) := lv_0 (by unfold kd; split <;> (try split) <;> (try split) <;> omega)
        go_enter Tryd.func54, Tryd.ntmps54
        go_wp2
        go_ret
        exact ⟨retI hk.out.symm, rfl⟩
      · rcases Int.lt_or_le 122 c with e | e
        · have hk : Hid (lv c = 0) := lv_0 (by unfold kd; split <;> (try split) <;> (try split) <;> omega)
          go_enter Tryd.func54, Tryd.ntmps54
          go_wp2
          go_ret
          exact ⟨retI hk.out.symm, rfl⟩
        · have hk : Hid (lv c = c - 97 + 1) := by
            unfold Hid; rw [lv_1 (by unfold kd; rw [if_pos ⟨d, e⟩])]; unfold nm; rw [if_pos ⟨d, e⟩]; omega
          go_enter Tryd.func54, Tryd.ntmps54
          go_wp2
          go_ret
          exact ⟨retI hk.out.symm, rfl⟩
    · have hk : Hid (lv c = c - 65 + 1) := by
        unfold Hid; rw [lv_1 (by unfold kd; rw [if_neg (by omega), if_pos ⟨a, b⟩])]; unfold nm; rw [if_neg (by omega), if_pos ⟨a, b⟩]; omega
      go_enter Tryd.func54, Tryd.ntmps54
      go_wp2
      go_ret
      exact ⟨retI hk.out.symm, rfl⟩
theorem ret2E {a b a' b' : Int} (h : a = a') (h' : b = b') : Ending.returned (.tuple #[.int .i64 a, .int .i64 b]) = .returned (.tuple #[.int .i64 a', .int .i64 b']) := by rw [h, h']
theorem not_AL (s : ByteArray) (k : Nat) (h : k < s.size) (hk : kd (s[k].toNat : Int) ≠ 1) : ¬ AL s.data.toList := fun H =>
  hk (H _ (by
    have : s[k] ∈ s.data.toList := by
      change s.data[k] ∈ _
      exact Array.getElem_mem_toList _
    exact this))
set_option maxRecDepth 100000 in
set_option maxHeartbeats 1600000 in
theorem rcolumn_any (s : ByteArray) (hs : s.size ≤ 2000) (w : World) :
    Calls Tryd.prog 55 #[.string s] w fun e w' => e = .returned (.tuple #[.int .i64 (CZ s.data.toList).1, .int .i64 (CZ s.data.toList).2]) ∧ w = w' := by
  go_enter Tryd.func55, Tryd.ntmps55
  go_wp2_with fail
  go_loop [4, 5] (fun n i => ∃ k : Nat, k ≤ s.size ∧ i = .int .i64 k ∧ n = .int .i64 (v26 1025 (s.data.toList.take k)) ∧ AL (s.data.toList.take k)) (fun _ i => s.size - (intOf i).toNat)
  case atStart => exact ⟨0, Nat.zero_le _, rfl, rfl, fun _ h => by simp at h⟩
  case round =>
    obtain ⟨k, hk, rfl, rfl, ha⟩ := hrel
    have hv := v26_bd 1025 (by omega) (s.data.toList.take k)
    obtain ⟨hv0, hv1⟩ := hv
    have HA := Lib.hid ha
    clear ha
    by_cases hlt : k < s.size
    · have HTS := Lib.hid (take_snoc s k hlt)
      have HN : Hid (v26 1025 (s.data.toList.take (k + 1)) = if 1025 < 26 * v26 1025 (s.data.toList.take k) + nm (s[k].toNat : Int) then 1025 else 26 * v26 1025 (s.data.toList.take k) + nm (s[k].toNat : Int)) := by
        unfold Hid; rw [HTS.out, v26_next]
      by_cases hk1 : kd (s[k].toNat : Int) = 1
      · have HAN : Hid (AL (s.data.toList.take (k + 1))) := by unfold Hid; rw [HTS.out]; exact HA.out.add hk1
        have HK := Lib.hid (lv_1 hk1)
        have hc0 : 0 ≤ (s[k].toNat : Int) := by omega
        have hc1 : (s[k].toNat : Int) ≤ 255 := by have := s[k].toNat_lt; omega
        have hm : 1 ≤ nm (s[k].toNat : Int) ∧ nm (s[k].toNat : Int) ≤ 26 := by have := kd_cases (s[k].toNat : Int); omega
        obtain ⟨m0, m1⟩ := hm
        clear hk1
        go_wp2_with fail
        refine (rletter_any _ hc0 hc1 _).mono ?_
        rintro e w' ⟨rfl, rfl⟩
        rw [HK.out]
        go_wp2_with fail
        refine (rletter_any _ hc0 hc1 _).mono ?_
        rintro e w' ⟨rfl, rfl⟩
        rw [HK.out]
        go_wp2_with fail
        go_round
        case rel => exact ⟨k + 1, by omega, by go_num, by rw [HN.out], HAN.out⟩
        case measure => simp [intOf]; omega
      · have HZ := Lib.hid (CZ_mixed (not_AL s k hlt hk1))
        have HK := Lib.hid (lv_0 hk1)
        have hc0 : 0 ≤ (s[k].toNat : Int) := by omega
        have hc1 : (s[k].toNat : Int) ≤ 255 := by have := s[k].toNat_lt; omega
        clear hk1
        go_wp2_with fail
        refine (rletter_any _ hc0 hc1 _).mono ?_
        rintro e w' ⟨rfl, rfl⟩
        rw [HK.out]
        go_wp2_with fail
        go_ret2
        exact ⟨ret2E (by rw [HZ.out]) (by rw [HZ.out]), rfl⟩
    · have ht : s.data.toList.take k = s.data.toList := List.take_of_length_le (by simp; omega)
      rw [ht] at HA hv0 hv1 ⊢
      clear ht
      by_cases h0 : s.data.toList = []
      · have HZ : Hid (CZ s.data.toList = (0, 4)) := by unfold Hid; rw [h0]; rfl
        have e0 : v26 1025 s.data.toList = 0 := by rw [h0]; rfl
        have E0 := Lib.hid e0
        clear h0 e0
        rw [E0.out]
        go_wp2_with fail
        go_ret2
        exact ⟨ret2E (by rw [HZ.out]) (by rw [HZ.out]), rfl⟩
      · have hp := v26_pos 1025 (by omega) _ HA.out h0
        have HZ := Lib.hid (CZ_letters HA.out h0)
        generalize v26 1025 s.data.toList = v at *
        have e0 : (v == 0) = false := by rw [beq_eq_false_iff_ne]; omega
        clear h0
        rcases Int.lt_or_le 1024 v with h1 | h1
        · have HZ' : Hid (CZ s.data.toList = (0, 3)) := by unfold Hid; rw [HZ.out, if_pos h1]
          go_wp2_with fail
          go_ret2
          exact ⟨ret2E (by rw [HZ'.out]) (by rw [HZ'.out]), rfl⟩
        · have HZ' : Hid (CZ s.data.toList = (v, 0)) := by unfold Hid; rw [HZ.out, if_neg (by omega)]
          go_wp2_with fail
          go_ret2
          exact ⟨ret2E (by rw [HZ'.out]) (by rw [HZ'.out]), rfl⟩
end Go.Proofs.YtmfcbcgobefjkaaDoor
