/- Merged: FuH FnuG. -/
import Derived.Test.YtfjefanhkbcfgaaGreatDoorMgm
import Derived.Test.YtfjefanhkbcfgaaGreatDoorCameV
/- The reference's Call in full; the law's list of arguments. -/
namespace Go.Proofs.YtfjefanhkbcfgaaGreatDoor.Va
open Go Go.RowKit GM
set_option linter.unusedVariables false
set_option linter.unusedSimpArgs false
/-- The arguments of the law, cut short: kinds, numbers, texts. -/
def vsL (z : List VV) : List V3 := z.map (fun x => (x.kd, x.num, x.txt))
theorem isV_of {w : World} {a : Option Addr} {n : Nat} {z : List VV} (h : IsOf cells3 3 w a n z) : IsV w a n (vsL z) := by
  refine ⟨by unfold vsL; rw [List.length_map]; exact h.1, fun h0 => ?_⟩
  obtain ⟨b, off, ha, hr⟩ := h.2 h0
  refine ⟨b, off, ha, hr.1, fun i hi j u hu => ?_⟩
  unfold vsL at hi hu
  rw [List.length_map] at hi
  rw [List.getElem_map] at hu
  exact hr.2 i hi j u hu
theorem vsL_ok (z : List VV) : ∀ v ∈ vsL z, v.2.2.size ≤ maxLen ∧ InI v.2.1 := by
  intro v hv
  unfold vsL at hv
  obtain ⟨x, _, rfl⟩ := List.mem_map.1 hv
  refine ⟨x.ml, ?_⟩
  have := x.lo
  have := x.hi
  unfold leastI at *
  unfold InI
  dsimp only
  omega
end Go.Proofs.YtfjefanhkbcfgaaGreatDoor.Va
/- The examples of the numbers' chapter. -/
namespace Go.Proofs.YtfjefanhkbcfgaaGreatDoor.Va
open Go Go.RowKit GM Sx
set_option linter.unusedVariables false
set_option maxRecDepth 100000 in
theorem awake13 (w : World) (h : Tb w) : Calls Tryz.prog 15 #[] w fun e w' => e = .returned (.bool true) ∧ Below w.heap.size w w' :=
  va_call (facts := []) (tab := []) (σ := symOf []) (symOf_one rfl) h foks_nil toks_nil (args := []) (v := .bool true) (by kernel_rfl) rfl rfl
end Go.Proofs.YtfjefanhkbcfgaaGreatDoor.Va
