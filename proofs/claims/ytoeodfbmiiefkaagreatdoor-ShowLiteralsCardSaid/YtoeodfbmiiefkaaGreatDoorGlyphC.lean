/- Contracts of the specification's Plain, Check, Upper, Lower. -/
import Derived.Test.YtoeodfbmiiefkaaGreatDoorGlyphB
namespace Go.Proofs.YtoeodfbmiiefkaaGreatDoor
open Go.RowKit GM
set_option maxHeartbeats 400000 in
theorem rplain_any (s : ByteArray) (hs : s.size ≤ maxLen) (w : World) :
    Calls Tryz.prog 46 #[.string s] w fun e w' => e = .returned (.bool (plain s.data.toList)) ∧ w = w' := by
  unfold maxLen at hs
  go_enter Tryz.func46, Tryz.ntmps46
  go_wp2_with fail
  go_loop [3] (fun i => ∃ k : Nat, k ≤ s.size ∧ i = .int .i64 k ∧ plain (s.data.toList.take k) = true) (fun i => s.size - (intOf i).toNat)
  case atStart => exact ⟨0, Nat.zero_le _, rfl, rfl⟩
  case round =>
    obtain ⟨k, hk, rfl, hp⟩ := hrel
    have HP := Lib.hid hp
    clear hp
    by_cases hlt : k < s.size
    · by_cases hc : 32 ≤ (s[k].toNat : Int) ∧ (s[k].toNat : Int) ≤ 126
      · have HN := Lib.hid (plain_more s k hlt hc HP.out)
        obtain ⟨c1, c2⟩ := hc
        go_wp2_with fail
        go_round
        case rel => exact ⟨k + 1, by omega, by go_num, HN.out⟩
        case measure => simp [intOf]; omega
      · have HN := Lib.hid (plain_bad s k hlt hc)
        rcases Int.lt_or_le (s[k].toNat : Int) 32 with h1 | h1
        · clear hc
          go_wp2_with fail
          go_ret
          exact ⟨retB HN.out.symm, rfl⟩
        · have h2 : 126 < (s[k].toNat : Int) := by omega
          clear hc
          go_wp2_with fail
          go_ret
          exact ⟨retB HN.out.symm, rfl⟩
    · obtain rfl : k = s.size := by omega
      go_wp2_with fail
      go_ret
      exact ⟨retB (by rw [← HP.out, take_all]), rfl⟩
set_option maxHeartbeats 400000 in
theorem rcheck_any (s : ByteArray) (hs : s.size ≤ maxLen) (w : World) :
    Calls Tryz.prog 27 #[.string s] w fun e w' => e = .returned (.int .i64 (chk s.data.toList)) ∧ w = w' := by
  have hm := hs
  unfold maxLen at hs
  by_cases h1 : 256 < s.size
  · have HC := Lib.hid (chk_long (l := s.data.toList) (by rw [data_len]; exact h1))
    go_enter Tryz.func27, Tryz.ntmps27
    go_wp2_with fail
    go_ret
    exact ⟨retI HC.out.symm, rfl⟩
  · have h1' : ¬ 256 < s.data.toList.length := by rw [data_len]; exact h1
    have H1 := Lib.hid h1'
    clear h1'
    cases hp : plain s.data.toList with
    | true =>
      have HC := Lib.hid (chk_ok H1.out hp)
      have HP := Lib.hid hp
      clear hp
      go_enter Tryz.func27, Tryz.ntmps27
      go_wp2_with fail
      refine (rplain_any s hm _).mono ?_
      rintro e w' ⟨rfl, rfl⟩
      rw [HP.out]
      go_wp2_with fail
      go_ret
      exact ⟨retI HC.out.symm, rfl⟩
    | false =>
      have HC := Lib.hid (chk_form H1.out hp)
      have HP := Lib.hid hp
      clear hp
      go_enter Tryz.func27, Tryz.ntmps27
      go_wp2_with fail
      refine (rplain_any s hm _).mono ?_
      rintro e w' ⟨rfl, rfl⟩
      rw [HP.out]
      go_wp2_with fail
      go_ret
      exact ⟨retI HC.out.symm, rfl⟩
end Go.Proofs.YtoeodfbmiiefkaaGreatDoor
