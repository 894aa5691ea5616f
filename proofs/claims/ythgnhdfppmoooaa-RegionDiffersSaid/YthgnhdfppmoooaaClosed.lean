/- Closed functions that return true: their runs are evaluated by an executor that is proved beside. -/
import Derived.Test.YthgnhdfppmoooaaAxZj
import Derived.Test.YthgnhdfppmoooaaProg
import Derived.KernelRfl
namespace Go.Proofs.Ythgnhdfppmoooaa
open Go Go.RowKit
theorem example20 (w : World) : Calls Try.prog 8 #[] w fun e w' => e = .returned (.bool true) ∧ Below w.heap.size w w' :=
  Ax.xmain_ok (Ax.regOk (by kernel_rfl)) (hp := Ax.tabsHp 0 []) (fuel := 10000000) rfl (by kernel_rfl) (Ax.ctx_tabs [] (fun _ h => by cases h) (fun _ h => by cases h))
end Go.Proofs.Ythgnhdfppmoooaa
