/- Contracts of the specification's Plain, Check, Upper, Lower. -/
import Derived.Test.YtfjefanhkbcfgaaGreatDoorGlyphB
namespace Go.Proofs.YtfjefanhkbcfgaaGreatDoor
open Go.RowKit GM
set_option maxHeartbeats 400000 in
theorem rplain_any (s : ByteArray) (hs : s.size ≤ maxLen) (w : World) :
    Calls Tryz.prog 191 #[.string s] w fun e w' => e = .returned (.bool (plain s.data.toList)) ∧ w = w' := by
  unfold maxLen at hs
  go_enter Tryz.func191, Tryz.ntmps191
  go_wp2_with fail
  go_loop [3] (fun i => ∃ k : Nat, k ≤ s.size ∧ i = .int .i64 k ∧ plain (s.data.toList.take k) = true) (fun i => s.size - (intOf i).toNat)
  case atStart => exact ⟨0, Nat.zero_le _, rfl, rfl⟩
  case round =>
    obtain ⟨k, hk, rfl, hp⟩ := hrel
    have HP := Lib.hid hp
    clear hp
    by_cases hlt : k < s.size
    · by_cases hc : 32 ≤ (s[k].toNat : Int) ∧ (s[k].toNat : Int) ≤ 126
      · have HN := Lib.hid (plain_more s k hlt hc HP.out)
        obtain ⟨c1, c2⟩ := hc
        go_wp2_with fail
        go_round
        case rel => exact ⟨k + 1, by omega, by go_num, HN.out⟩
        case measure => simp [intOf]; omega
      · have HN := Lib.hid (plain_bad s k hlt hc)
        rcases Int.lt_or_le (s[k].toNat : Int) 32 with h1 | h1
        · clear hc
          go_wp2_with fail
          go_ret
          exact ⟨retB HN.out.symm, rfl⟩
        · have h2 : 126 < (s[k].toNat : Int) := by omega
          clear hc
          go_wp2_with fail
          go_ret
          exact ⟨retB HN.out.symm, rfl⟩
    · obtain rfl : k = s.size := by omega
      go_wp2_with fail
      go_ret
      exact ⟨retB (by rw [← HP.out, take_all]), rfl⟩
set_option maxHeartbeats 400000 in
theorem rcheck_any (s : ByteArray) (hs : s.size ≤ maxLen) (w : World) :
    Calls Tryz.prog 134 #[.string s] w fun e w' => e = .returned (.int .i64 (chk s.data.toList)) ∧ w = w' := by
  have hm := hs
  unfold maxLen at hs
  by_cases h1 : 256 < s.size
  · have HC := Lib.hid (chk_long (l := s.data.toList) (by rw [data_len]; exact h1))
    go_enter Tryz.func134, Tryz.ntmps134
    go_wp2_with fail
    go_ret
    exact ⟨retI HC.out.symm, rfl⟩
  · have h1' : ¬ 256 < s.data.toList.length := by rw [data_len]; exact h1
    have H1 := Lib.hid h1'
    clear h1'
    cases hp : plain s.data.toList with
    | true =>
      have HC := Lib.hid (chk_ok H1.out hp)
      have HP := Lib.hid hp
      clear hp
      go_enter Tryz.func134, Tryz.ntmps134
      go_wp2_with fail
      refine (rplain_any s hm _).mono ?_
      rintro e w' ⟨rfl, rfl⟩
      rw [HP.out]
      go_wp2_with fail
      go_ret
      exact ⟨retI HC.out.symm, rfl⟩
    | false =>
      have HC := Lib.hid (chk_form H1.out hp)
      have HP := Lib.hid hp
      clear hp
      go_enter Tryz.func134, Tryz.ntmps134
      go_wp2_with fail
      refine (rplain_any s hm _).mono ?_
      rintro e w' ⟨rfl, rfl⟩
      rw [HP.out]
      go_wp2_with fail
      go_ret
      exact ⟨retI HC.out.symm, rfl⟩
set_option maxRecDepth 100000 in
set_option maxHeartbeats 1600000 in
theorem rupper_any (s : ByteArray) (hs : s.size ≤ maxLen) (w : World) :
    Calls Tryz.prog 120 #[.string s] w fun e w' => e = .returned (.string (upS s)) ∧ Below w.heap.size w w' := by
  have hm := hs
  unfold maxLen at hs
  have hconv := fun W => run_bytes_of_string (P := Tryz.prog) W 9 36 5 s Tryz.underlying9 Tryz.underlying36 Tryz.underlying5
  go_enter Tryz.func120, Tryz.ntmps120
  go_wp2_with fail
  clear hconv
  go_loopw [4] (fun i wr => ∃ k : Nat, k ≤ s.size ∧ i = .int .i64 k ∧ Bytes wr w.heap.size (mixed up s.data.toList k) ∧ Below w.heap.size w wr) (fun i _ => s.size - (intOf i).toNat)
  case atStart => exact ⟨0, Nat.zero_le _, rfl, by rw [mixed_none]; exact Bytes.of _ _ _ _, ((Below.refl _ _).alloc (Nat.le_refl _) _).drew⟩
  case round =>
    obtain ⟨k, hk, rfl, hb, hB⟩ := hrel
    have HB := Lib.hid hb
    have HE := Lib.hid hB
    clear hb hB
    by_cases hlt : k < s.size
    · have hl : k < s.data.toList.length := by rw [data_len]; exact hlt
      have hl2 : k < (mixed up s.data.toList k).length := by rw [mixed_len]; exact hl
      have hc := HB.out.2.1 k hl2
      rw [mixed_at _ _ _ hl] at hc
      have hf := HB.out.2.2 k hl2
      have HU := Lib.hid (up_int s.data.toList[k])
      have hb1 : ((s.data.toList[k]).toNat : Int) ≤ 255 := by have := (s.data.toList[k]).toNat_lt; omega
      have hb0 : 0 ≤ ((s.data.toList[k]).toNat : Int) := by omega
      have hset := HB.out.set k hl2 (up s.data.toList[k])
      rw [mixed_set _ _ _ hl] at hset
      have hid : Hid (up s.data.toList[k] = s.data.toList[k] → Bytes wr w.heap.size (mixed up s.data.toList (k + 1))) := fun e => by
        rw [← mixed_set _ _ _ hl, e]
        have := HB.out
        rwa [show (mixed up s.data.toList k).set k s.data.toList[k] = mixed up s.data.toList k by
          have h3 := mixed_at up s.data.toList k hl
          rw [List.getD, List.getElem?_eq_getElem hl2] at h3
          simp only [Option.getD_some] at h3
          rw [← h3]; exact List.set_getElem_self hl2]
      have HN := Lib.hid hset
      clear hset
      have hsame : Hid (¬ (97 ≤ ((s.data.toList[k]).toNat : Int) ∧ ((s.data.toList[k]).toNat : Int) ≤ 122) → up s.data.toList[k] = s.data.toList[k]) := fun h => UInt8.toNat_inj.1 (by have := HU.out; unfold upI at this; rw [if_neg h] at this; omega)
      have hdif : Hid ((97 ≤ ((s.data.toList[k]).toNat : Int) ∧ ((s.data.toList[k]).toNat : Int) ≤ 122) → ((s.data.toList[k]).toNat : Int) - 32 = ((up s.data.toList[k]).toNat : Int)) := fun h => by have := HU.out; unfold upI at this; rw [if_pos h] at this; omega
      generalize s.data.toList[k] = c at *
      have hz := HB.out.1
      rcases Int.lt_or_le (c.toNat : Int) 97 with a | a
      · have HG := Lib.hid (hid.out (hsame.out (by omega)))
        go_wp2_with fail
        go_roundw
        case rel => exact ⟨k + 1, by omega, by go_num, HG.out, HE.out⟩
        case measure => simp [intOf]; omega
      · rcases Int.lt_or_le 122 (c.toNat : Int) with b | b
        · have HG := Lib.hid (hid.out (hsame.out (by omega)))
          go_wp2_with fail
          go_roundw
          case rel => exact ⟨k + 1, by omega, by go_num, HG.out, HE.out⟩
          case measure => simp [intOf]; omega
        · have HD := Lib.hid (hdif.out ⟨a, b⟩)
          go_wp2_with fail
          go_roundw
          case rel => exact ⟨k + 1, by omega, by go_num, by rw [HD.out]; exact HN.out, HE.out.setCell (Nat.le_refl _) _⟩
          case measure => simp [intOf]; omega
    · obtain rfl : k = s.size := by omega
      have hconv := run_convert_bytes_arg (P := Tryz.prog) wr 36 5 Tryz.underlying36 Tryz.underlying5 w.heap.size 0 s.size (grownCap w s.size 0 5) (nums (s.data.toList.map up)) (by simp [nums]) (fun i hi => by
        have h := HB.out.2.1 i (by rw [mixed_len, data_len]; exact hi)
        rw [← data_len s, mixed_all] at h
        rw [Nat.zero_add, h, nums_getD _ _ (by simpa using hi)]
        simp [List.getD, hi]) 9 Tryz.underlying9
      rw [strOf_nums] at hconv
      go_wp2_with fail
      go_ret
      exact ⟨rfl, HE.out⟩
set_option maxRecDepth 100000 in
set_option maxHeartbeats 1600000 in
theorem rlower_any (s : ByteArray) (hs : s.size ≤ maxLen) (w : World) :
    Calls Tryz.prog 121 #[.string s] w fun e w' => e = .returned (.string (loS s)) ∧ Below w.heap.size w w' := by
  have hm := hs
  unfold maxLen at hs
  have hconv := fun W => run_bytes_of_string (P := Tryz.prog) W 9 36 5 s Tryz.underlying9 Tryz.underlying36 Tryz.underlying5
  go_enter Tryz.func121, Tryz.ntmps121
  go_wp2_with fail
  clear hconv
  go_loopw [4] (fun i wr => ∃ k : Nat, k ≤ s.size ∧ i = .int .i64 k ∧ Bytes wr w.heap.size (mixed lo s.data.toList k) ∧ Below w.heap.size w wr) (fun i _ => s.size - (intOf i).toNat)
  case atStart => exact ⟨0, Nat.zero_le _, rfl, by rw [mixed_none]; exact Bytes.of _ _ _ _, ((Below.refl _ _).alloc (Nat.le_refl _) _).drew⟩
  case round =>
    obtain ⟨k, hk, rfl, hb, hB⟩ := hrel
    have HB := Lib.hid hb
    have HE := Lib.hid hB
    clear hb hB
    by_cases hlt : k < s.size
    · have hl : k < s.data.toList.length := by rw [data_len]; exact hlt
      have hl2 : k < (mixed lo s.data.toList k).length := by rw [mixed_len]; exact hl
      have hc := HB.out.2.1 k hl2
      rw [mixed_at _ _ _ hl] at hc
      have hf := HB.out.2.2 k hl2
      have HU := Lib.hid (lo_int s.data.toList[k])
      have hb1 : ((s.data.toList[k]).toNat : Int) ≤ 255 := by have := (s.data.toList[k]).toNat_lt; omega
      have hb0 : 0 ≤ ((s.data.toList[k]).toNat : Int) := by omega
      have hset := HB.out.set k hl2 (lo s.data.toList[k])
      rw [mixed_set _ _ _ hl] at hset
      have hid : Hid (lo s.data.toList[k] = s.data.toList[k] → Bytes wr w.heap.size (mixed lo s.data.toList (k + 1))) := fun e => by
        rw [← mixed_set _ _ _ hl, e]
        have := HB.out
        rwa [show (mixed lo s.data.toList k).set k s.data.toList[k] = mixed lo s.data.toList k by
          have h3 := mixed_at lo s.data.toList k hl
          rw [List.getD, List.getElem?_eq_getElem hl2] at h3
          simp only [Option.getD_some] at h3
          rw [← h3]; exact List.set_getElem_self hl2]
      have HN := Lib.hid hset
      clear hset
      have hsame : Hid (¬ (65 ≤ ((s.data.toList[k]).toNat : Int) ∧ ((s.data.toList[k]).toNat : Int) ≤ 90) → lo s.data.toList[k] = s.data.toList[k]) := fun h => UInt8.toNat_inj.1 (by have := HU.out; unfold loI at this; rw [if_neg h] at this; omega)
      have hdif : Hid ((65 ≤ ((s.data.toList[k]).toNat : Int) ∧ ((s.data.toList[k]).toNat : Int) ≤ 90) → ((s.data.toList[k]).toNat : Int) + 32 = ((lo s.data.toList[k]).toNat : Int)) := fun h => by have := HU.out; unfold loI at this; rw [if_pos h] at this; omega
      generalize s.data.toList[k] = c at *
      have hz := HB.out.1
      rcases Int.lt_or_le (c.toNat : Int) 65 with a | a
      · have HG := Lib.hid (hid.out (hsame.out (by omega)))
        go_wp2_with fail
        go_roundw
        case rel => exact ⟨k + 1, by omega, by go_num, HG.out, HE.out⟩
        case measure => simp [intOf]; omega
      · rcases Int.lt_or_le 90 (c.toNat : Int) with b | b
        · have HG := Lib.hid (hid.out (hsame.out (by omega)))
          go_wp2_with fail
          go_roundw
          case rel => exact ⟨k + 1, by omega, by go_num, HG.out, HE.out⟩
          case measure => simp [intOf]; omega
        · have HD := Lib.hid (hdif.out ⟨a, b⟩)
          go_wp2_with fail
          go_roundw
          case rel => exact ⟨k + 1, by omega, by go_num, by rw [HD.out]; exact HN.out, HE.out.setCell (Nat.le_refl _) _⟩
          case measure => simp [intOf]; omega
    · obtain rfl : k = s.size := by omega
      have hconv := run_convert_bytes_arg (P := Tryz.prog) wr 36 5 Tryz.underlying36 Tryz.underlying5 w.heap.size 0 s.size (grownCap w s.size 0 5) (nums (s.data.toList.map lo)) (by simp [nums]) (fun i hi => by
        have h := HB.out.2.1 i (by rw [mixed_len, data_len]; exact hi)
        rw [← data_len s, mixed_all] at h
        rw [Nat.zero_add, h, nums_getD _ _ (by simpa using hi)]
        simp [List.getD, hi]) 9 Tryz.underlying9
      rw [strOf_nums] at hconv
      go_wp2_with fail
      go_ret
      exact ⟨rfl, HE.out⟩
end Go.Proofs.YtfjefanhkbcfgaaGreatDoor
