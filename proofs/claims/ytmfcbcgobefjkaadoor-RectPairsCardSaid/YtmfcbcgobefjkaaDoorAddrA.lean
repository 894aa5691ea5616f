/- Contracts of addr: the kinds of bytes, and what is read of an address. -/
import Derived.Test.YtmfcbcgobefjkaaDoorProg
import Derived.Test.YtmfcbcgobefjkaaDoorAddrMath
import Derived.WalkKit
import Derived.WalkSpells
import Derived.WalkLawsBesides
import Derived.Lib.Hide
import Derived.BigQuiet
import Derived.Deep.QuietTactic
import Derived.Outline
namespace Go.Proofs.YtmfcbcgobefjkaaDoor
open Go.RowKit AM

theorem ret2I {a b c d : Int} {k : IntKind} (h : a = c) (h' : b = d) : Ending.returned (.tuple #[.int k a, .int k b]) = .returned (.tuple #[.int k c, .int k d]) := by rw [h, h']

set_option maxHeartbeats 400000 in
theorem sorted_any (c : Int) (h0 : 0 ≤ c) (h1 : c ≤ 255) (w : World) :
    Calls Tryd.prog 61 #[.int .u8 c] w fun e w' => e = .returned (.tuple #[.int .i64 (kd c), .int .i64 (nm c)]) ∧ w = w' := by
  by_cases a : 97 ≤ c ∧ c ≤ 122
  · obtain ⟨a0, a1⟩ := a
    go_enter Tryd.func61, Tryd.ntmps61
    go_wp2
    go_ret2
    exact ⟨ret2I (by unfold kd; rw [if_pos ⟨a0, a1⟩]) (by unfold nm; rw [if_pos ⟨a0, a1⟩]; omega), rfl⟩
  · by_cases b : 65 ≤ c ∧ c ≤ 90
    · obtain ⟨b0, b1⟩ := b
      have a0 : ¬ 97 ≤ c := by omega
      have a' : ¬ 97 ≤ c := a0
      clear a
      go_enter Tryd.func61, Tryd.ntmps61
      go_wp2
      go_ret2
      exact ⟨ret2I (by unfold kd; rw [if_neg (by omega), if_pos ⟨b0, b1⟩]) (by unfold nm; rw [if_neg (by omega), if_pos ⟨b0, b1⟩]; omega), rfl⟩
    · by_cases d : 48 ≤ c ∧ c ≤ 57
      · obtain ⟨d0, d1⟩ := d
        clear a b
        go_enter Tryd.func61, Tryd.ntmps61
        go_wp2
        go_ret2
        exact ⟨ret2I (by unfold kd; rw [if_neg (by omega), if_neg (by omega), if_pos ⟨d0, d1⟩]) (by unfold nm; rw [if_neg (by omega), if_neg (by omega), if_pos ⟨d0, d1⟩]), rfl⟩
      · have hk : Hid (kd c = 0 ∧ nm c = 0) := by
          unfold Hid kd nm; rw [if_neg a, if_neg b, if_neg d, if_neg a, if_neg b, if_neg d]; exact ⟨rfl, rfl⟩
        rcases Int.lt_or_le c 48 with u | u
        · clear a b d
          go_enter Tryd.func61, Tryd.ntmps61
          go_wp2
          go_ret2
          exact ⟨ret2I hk.out.1.symm hk.out.2.symm, rfl⟩
        · rcases Int.lt_or_le c 65 with v | v
          · have u' : 57 < c := by omega
            clear a b d
            go_enter Tryd.func61, Tryd.ntmps61
            go_wp2
            go_ret2
            exact ⟨ret2I hk.out.1.symm hk.out.2.symm, rfl⟩
          · rcases Int.lt_or_le c 97 with x | x
            · have u' : 90 < c := by omega
              clear a b d
              go_enter Tryd.func61, Tryd.ntmps61
              go_wp2
              go_ret2
              exact ⟨ret2I hk.out.1.symm hk.out.2.symm, rfl⟩
            · have u' : 122 < c := by omega
              clear a b d
              go_enter Tryd.func61, Tryd.ntmps61
              go_wp2
              go_ret2
              exact ⟨ret2I hk.out.1.symm hk.out.2.symm, rfl⟩
end Go.Proofs.YtmfcbcgobefjkaaDoor
