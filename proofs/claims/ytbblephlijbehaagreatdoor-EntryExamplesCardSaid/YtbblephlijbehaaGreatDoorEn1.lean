/- A run in segments: En1. -/
import Derived.Test.YtbblephlijbehaaGreatDoorEnD2
import Derived.KernelRfl
namespace Go.Proofs.YtbblephlijbehaaGreatDoor.En
open Go Go.RowKit Sx
set_option linter.unusedVariables false
set_option maxRecDepth 100000
theorem ea_seg1_1 (run : Run) : xseg Tryz.prog eaG (xrun Tryz.prog eaG 10000000) 6200 (gcK [1, 2, 3, 4, 5, 6, 7, 10, 11, 12, 13, 14, 15, 16, 17, 1304, 1305, 1316, 0, 8, 9] run) eaS1 [] eaT1_0 eaM1_0 eaH1_0 = run eaS1 [] eaT1_1 eaM1_1 eaH1_1 := by kernel_rfl
theorem ea_seg1_7 (run : Run) : xseg Tryz.prog eaG (xrun Tryz.prog eaG 10000000) 3000 (gcK [1, 2, 3, 4, 5, 6, 7, 10, 11, 12, 13, 14, 15, 16, 17, 4556, 4557, 4558, 0, 8, 9] run) eaS1 [] eaT1_6 eaM1_6 eaH1_6 = run eaS1 [] eaT1_7 eaM1_7 eaH1_7 := by kernel_rfl
theorem ea_seg1_13 (run : Run) : xseg Tryz.prog eaG (xrun Tryz.prog eaG 10000000) 2600 (gcK [1, 2, 3, 4, 5, 6, 7, 10, 11, 12, 13, 14, 15, 16, 17, 6412, 6413, 6414, 0, 8, 9] run) eaS1 [] eaT1_12 eaM1_12 eaH1_12 = run eaS1 [] eaT1_13 eaM1_13 eaH1_13 := by kernel_rfl
end Go.Proofs.YtbblephlijbehaaGreatDoor.En
