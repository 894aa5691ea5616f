/- Merged: Lval MakV. -/
import Derived.Test.YtdhahiodnmmkeaaGreatDoorFuB
import Derived.Laws.MakeOwn
/- The values of the examples: some list of values whose texts are short. -/
namespace Go.Proofs.YtdhahiodnmmkeaaGreatDoor.Va
open Go Go.RowKit GM
set_option linter.unusedVariables false
set_option linter.unusedSimpArgs false
/-- A value whose text is short. -/
def okV (v : V3) : Prop := v.2.2.size ≤ 300 ∧ InI v.2.1
end Go.Proofs.YtdhahiodnmmkeaaGreatDoor.Va
/- Lists of blank values that make lays. -/
namespace Go.Proofs.YtdhahiodnmmkeaaGreatDoor.Va
open Go Go.RowKit GM
set_option linter.unusedVariables false
set_option linter.unusedSimpArgs false
theorem isV_new9 (w : World) (cs : Array Value) (t : TypeId) (M : List V3) (h : cs = (M.flatMap cellsV).toArray) : IsV (w.alloc (.cells cs t)) (some ⟨w.heap.size, 0, none⟩) M.length M := by
  subst h
  refine ⟨rfl, fun _ => ⟨w.heap.size, 0, rfl, by simp, fun k hk j v hv => ?_⟩⟩
  have hj : j < 3 := by rw [← cellsV_len M[k]]; exact (List.getElem?_eq_some_iff.1 hv).1
  have := flat_at cellsV_len M k hk j hj
  rw [hv] at this
  simp [this]
/-- A slice that reads as a list. -/
def SlW (L : List V3) : Fact := fun v X => ∃ a cap, v = .slice a L.length cap ∧ IsV X a L.length L ∧ L.length ≤ cap
theorem slW_stable (L : List V3) : Stable (SlW L) := fun _ _ _ hB ⟨a, c, e, h, hc⟩ => ⟨a, c, e, IsOf.later h hB, hc⟩
end Go.Proofs.YtdhahiodnmmkeaaGreatDoor.Va
