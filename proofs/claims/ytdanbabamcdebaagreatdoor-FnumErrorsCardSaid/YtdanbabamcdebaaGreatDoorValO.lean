/- The order of values: mathematics. -/
import Derived.Test.YtdanbabamcdebaaGreatDoorValC
namespace Go.Proofs.YtdanbabamcdebaaGreatDoor.Va
open Go Go.RowKit GM
theorem vld_kind {k : Nat} {n : Int} {l : List UInt8} (h : vldV k n l = true) : k ≤ 4 := by
  unfold vldV at h
  by_cases h0 : k = 0
  · omega
  by_cases h1 : k = 1
  · omega
  by_cases h2 : k = 2
  · omega
  by_cases h3 : k = 3
  · omega
  by_cases h4 : k = 4
  · omega
  rw [if_neg h0, if_neg h1, if_neg h2, if_neg h3, if_neg h4] at h
  cases h
theorem vld_text {k : Nat} {n : Int} {l : List UInt8} (h : vldV k n l = true) (h3 : k ≠ 3) : l = [] := by
  have hk := vld_kind h
  unfold vldV at h
  obtain rfl | rfl | rfl | rfl : k = 0 ∨ k = 1 ∨ k = 2 ∨ k = 4 := by omega
  all_goals
    simp at h
    exact h.2
/-- Where no value is blank. -/
def c1 (k : Nat) (n : Int) (s : ByteArray) (k' : Nat) (n' : Int) (s' : ByteArray) : Int := if k = k' then (if k = 3 then cmpS s.data.toList s'.data.toList else sgI n n') else sgI (rkV k) (rkV k')
end Go.Proofs.YtdanbabamcdebaaGreatDoor.Va
