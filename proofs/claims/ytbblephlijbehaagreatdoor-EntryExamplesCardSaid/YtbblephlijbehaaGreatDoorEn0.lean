/- A run in segments: En0. -/
import Derived.Test.YtbblephlijbehaaGreatDoorEnD2
import Derived.KernelRfl
namespace Go.Proofs.YtbblephlijbehaaGreatDoor.En
open Go Go.RowKit Sx
set_option linter.unusedVariables false
set_option maxRecDepth 100000
theorem ea_seg1_0 (run : Run) : xseg Tryz.prog eaG (xrun Tryz.prog eaG 10000000) 14200 (gcK [1, 2, 3, 4, 5, 6, 7, 10, 11, 12, 13, 14, 15, 16, 17, 632, 633, 648, 0, 8, 9] run) eaS1 [] [.code eaB1] (T.setList eaA1 .leaf 0) eaH0_0 = run eaS1 [] eaT1_0 eaM1_0 eaH1_0 := by kernel_rfl
theorem ea_seg1_6 (run : Run) : xseg Tryz.prog eaG (xrun Tryz.prog eaG 10000000) 3800 (gcK [1, 2, 3, 4, 5, 6, 7, 10, 11, 12, 13, 14, 15, 16, 17, 4208, 4209, 4210, 4223, 0, 8, 9] run) eaS1 [] eaT1_5 eaM1_5 eaH1_5 = run eaS1 [] eaT1_6 eaM1_6 eaH1_6 := by kernel_rfl
theorem ea_seg1_12 (run : Run) : xseg Tryz.prog eaG (xrun Tryz.prog eaG 10000000) 2600 (gcK [1, 2, 3, 4, 5, 6, 7, 10, 11, 12, 13, 14, 15, 16, 17, 6122, 6123, 6124, 0, 8, 9] run) eaS1 [] eaT1_11 eaM1_11 eaH1_11 = run eaS1 [] eaT1_12 eaM1_12 eaH1_12 := by kernel_rfl
end Go.Proofs.YtbblephlijbehaaGreatDoor.En
