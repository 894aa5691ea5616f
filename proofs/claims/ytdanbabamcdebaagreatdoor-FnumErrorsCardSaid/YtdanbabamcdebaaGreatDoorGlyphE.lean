/- Contracts of Quote: the program's and the specification's. -/
import Derived.Test.YtdanbabamcdebaaGreatDoorG1
import Derived.Test.YtdanbabamcdebaaGreatDoorGlyphD
namespace Go.Proofs.YtdanbabamcdebaaGreatDoor
open Go.RowKit GM
/-- The library's bound on a needle holds some number. -/
def ML (w : World) : Prop := 2 < w.heap.size ∧ ∃ m : Int, w.cell? ⟨2, 0, none⟩ = some (.int .i64 m)
theorem ML.later {w w' : World} (h : ML w) (hB : Below w.heap.size w w') : ML w' := by
  obtain ⟨h1, m, h2⟩ := h
  refine ⟨Nat.lt_of_lt_of_le h1 hB.size, m, ?_⟩
  rw [(bcell hB).1 _ _ h1]; exact h2
end Go.Proofs.YtdanbabamcdebaaGreatDoor
