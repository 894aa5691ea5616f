/- A table of the library's, in every world behind the first one. -/
import Derived.Test.YtkigjoaoggafeaaDoorProg
import Derived.Test.YtkigjoaoggafeaaDoorRows
import Derived.Below
import Derived.Lib.LaidTab
import Derived.Lib.ItoaNum
import Derived.MakeChecks
import Derived.LaidMore
import Derived.Stop.LaidErr
namespace Go.Proofs.YtkigjoaoggafeaaDoor
open Go.Lib Go.RowKit
theorem tab_below {n : String} {k : IntKind} {zs : List Int} {g : Nat} {w w' : World} (hg : Tryd.prog.globalNamed n = some g) (h : TabIs Tryd.prog w n k zs) (hB : Below w.heap.size w w') : TabIs Tryd.prog w' n k zs := by
  unfold TabIs World.var? at *
  simp only [hg, Option.bind_some] at h ⊢
  have hlt : g < w.heap.size := by
    cases he : w.heap[g]? with
    | none => rw [he] at h; simp at h
    | some o =>
      rcases Nat.lt_or_ge g w.heap.size with hx | hx
      · exact hx
      · rw [Array.getElem?_eq_none hx] at he; simp at he
  rw [hB.block g hlt]
  exact h
end Go.Proofs.YtkigjoaoggafeaaDoor
