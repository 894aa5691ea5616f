/- The examples of the chapter of conditions. -/
import Derived.Test.YtdhahiodnmmkeaaGreatDoorMgj
namespace Go.Proofs.YtdhahiodnmmkeaaGreatDoor.Va
open Go Go.RowKit GM Sx
set_option linter.unusedVariables false
set_option maxRecDepth 100000 in
theorem awake15 (w : World) (h : Tb w) : Calls Tryz.prog 17 #[] w fun e w' => e = .returned (.bool true) ∧ Below w.heap.size w w' :=
  va_call (facts := []) (tab := []) (σ := symOf []) (symOf_one rfl) h foks_nil toks_nil (args := []) (v := .bool true) (by kernel_rfl) rfl rfl
end Go.Proofs.YtdhahiodnmmkeaaGreatDoor.Va
