/- Contracts of the specification's sums of lists (louvreref01.total, Sum, Add). -/
import Derived.Test.YtdanbabamcdebaaGreatDoorHold
namespace Go.Proofs.YtdanbabamcdebaaGreatDoor
open Go.RowKit

/-- A list of numbers that lies in memory from a cell on. -/
def InMem (w : World) (b off : Nat) (zs : List Int) : Prop := b < w.heap.size ∧ ∀ i, i < zs.length → w.cell? ⟨b, off + i, none⟩ = some (.int .i64 (zs.getD i 0))
theorem InMem.later {w w1 : World} {b off : Nat} {zs : List Int} (h : InMem w b off zs) (hb : Below w.heap.size w w1) : InMem w1 b off zs :=
  ⟨Nat.lt_of_lt_of_le h.1 hb.size, fun i hi => (hb.cell (p := ⟨b, off + i, none⟩) h.1).trans (h.2 i hi)⟩
end Go.Proofs.YtdanbabamcdebaaGreatDoor
