/- The contract of the program's Unquote. -/
import Derived.Test.YtelanmknimapoaaGreatDoorGlyphE
import Derived.WalkMore
import Derived.ScopeJumps
import Derived.Deep.LoopGhost
namespace Go.Proofs.YtelanmknimapoaaGreatDoor.Gl
open Go.RowKit GM
/-- Of the rest from place k on. -/
def RestU (L : List UInt8) (T : List UInt8) (k : Nat) : Prop := unq L = (unq (L.drop k)).map (T ++ ·) ∧ T.length ≤ k
theorem RestU.zero (L : List UInt8) : RestU L [] 0 := ⟨by simp, by simp⟩
theorem drop_cons (L : List UInt8) (k : Nat) (h : k < L.length) : L.drop k = L[k] :: L.drop (k + 1) := List.drop_eq_getElem_cons h
theorem RestU.one {L T : List UInt8} {k : Nat} (h : RestU L T k) (hk : k < L.length) (hc : L[k] ≠ 34) : RestU L (T ++ [L[k]]) (k + 1) := by
  refine ⟨?_, by have := h.2; simp; omega⟩
  rw [h.1, drop_cons L k hk, unq_cons _ _ hc, Option.map_map]
  congr 1
  funext x; simp
theorem RestU.two {L T : List UInt8} {k : Nat} (h : RestU L T k) (hk : k + 1 < L.length) (hc : L[k] = 34) (hd : L[k + 1] = 34) : RestU L (T ++ [34]) (k + 2) := by
  refine ⟨?_, by have := h.2; simp; omega⟩
  rw [h.1, drop_cons L k (by omega), drop_cons L (k + 1) hk, hc, hd, unq_two, Option.map_map]
  congr 1
  funext x; simp
theorem RestU.done {L T : List UInt8} (h : RestU L T L.length) : unq L = some T := by
  rw [h.1, List.drop_length]; simp [unq]
end Go.Proofs.YtelanmknimapoaaGreatDoor.Gl
