/- Closed functions that return true: their runs are evaluated by an executor that is proved beside. -/
import Derived.Test.YteoepgdfhllffaaDoorAxZj
import Derived.Test.YteoepgdfhllffaaDoorProg
import Derived.KernelRfl
namespace Go.Proofs.YteoepgdfhllffaaDoor
open Go Go.RowKit
theorem known01 (w : World) : Calls Tryd.prog 9 #[] w fun e w' => e = .returned (.bool true) ∧ Below w.heap.size w w' :=
  Ax.xmain_ok (Ax.regOk (by kernel_rfl)) (hp := Ax.tabsHp 9 []) (fuel := 10000000) rfl (by kernel_rfl) (Ax.ctx_tabs [] (fun _ h => by cases h) (fun _ h => by cases h))
end Go.Proofs.YteoepgdfhllffaaDoor
