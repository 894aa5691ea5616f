/- The law SccNames returns true: its run is evaluated by an executor that is proved beside. -/
import Derived.Test.YthdhclcdngdkdaaAxZh
import Derived.Test.YthdhclcdngdkdaaProg
import Derived.KernelRfl
namespace Go.Proofs.Ythdhclcdngdkdaa
open Go Go.RowKit

theorem sccNames_law (w : World) : Calls Try.prog 4 #[] w fun e w' => e = .returned (.bool true) ∧ Below w.heap.size w w' :=
  Ax.xmain_ok (Ax.regOk (by kernel_rfl)) (hp := ⟨.leaf, 0, [], [], 0⟩) (fuel := 10000000) rfl (by kernel_rfl) (Ax.ctx_empty w)
end Go.Proofs.Ythdhclcdngdkdaa
