/- Contracts of the specification's Plain, Check, Upper, Lower. -/
import Derived.Test.YtndijajaddkbhaaGlyphB
namespace Go.Proofs.Ytndijajaddkbhaa.Gl
open Go.RowKit GM
set_option maxHeartbeats 400000 in
theorem rplain_any (s : ByteArray) (hs : s.size ≤ maxLen) (w : World) :
    Calls Try.prog 109 #[.string s] w fun e w' => e = .returned (.bool (plain s.data.toList)) ∧ w = w' := by
  unfold maxLen at hs
  go_enter Try.func109, Try.ntmps109
  go_wp2_with fail
  go_loop [3] (fun i => ∃ k : Nat, k ≤ s.size ∧ i = .int .i64 k ∧ plain (s.data.toList.take k) = true) (fun i => s.size - (intOf i).toNat)
  case atStart => exact ⟨0, Nat.zero_le _, rfl, rfl⟩
  case round =>
    obtain ⟨k, hk, rfl, hp⟩ := hrel
    have HP := Lib.hid hp
    clear hp
    by_cases hlt : k < s.size
    · by_cases hc : 32 ≤ (s[k].toNat : Int) ∧ (s[k].toNat : Int) ≤ 126
      · have HN := Lib.hid (plain_more s k hlt hc HP.out)
        obtain ⟨c1, c2⟩ := hc
        go_wp2_with fail
        go_round
        case rel => exact ⟨k + 1, by omega, by go_num, HN.out⟩
        case measure => simp [intOf]; omega
      · have HN := Lib.hid (plain_bad s k hlt hc)
        rcases Int.lt_or_le (s[k].toNat : Int) 32 with h1 | h1
        · clear hc
          go_wp2_with fail
          go_ret
          exact ⟨retB HN.out.symm, rfl⟩
        · have h2 : 126 < (s[k].toNat : Int) := by omega
          clear hc
          go_wp2_with fail
          go_ret
          exact ⟨retB HN.out.symm, rfl⟩
    · obtain rfl : k = s.size := by omega
      go_wp2_with fail
      go_ret
      exact ⟨retB (by rw [← HP.out, take_all]), rfl⟩
end Go.Proofs.Ytndijajaddkbhaa.Gl
