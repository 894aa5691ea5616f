/- A run in segments: En2. -/
import Derived.Test.YtbblephlijbehaaGreatDoorEnD2
import Derived.KernelRfl
namespace Go.Proofs.YtbblephlijbehaaGreatDoor.En
open Go Go.RowKit Sx
set_option linter.unusedVariables false
set_option maxRecDepth 100000
theorem ea_seg1_2 (run : Run) : xseg Tryz.prog eaG (xrun Tryz.prog eaG 10000000) 6200 (gcK [1, 2, 3, 4, 5, 6, 7, 10, 11, 12, 13, 14, 15, 16, 17, 1976, 1977, 0, 8, 9] run) eaS1 [] eaT1_1 eaM1_1 eaH1_1 = run eaS1 [] eaT1_2 eaM1_2 eaH1_2 := by kernel_rfl
theorem ea_seg1_8 (run : Run) : xseg Tryz.prog eaG (xrun Tryz.prog eaG 10000000) 3200 (gcK [1, 2, 3, 4, 5, 6, 7, 10, 11, 12, 13, 14, 15, 16, 17, 4904, 4905, 4906, 0, 8, 9] run) eaS1 [] eaT1_7 eaM1_7 eaH1_7 = run eaS1 [] eaT1_8 eaM1_8 eaH1_8 := by kernel_rfl
theorem ea_seg1_14 (run : Run) : xseg Tryz.prog eaG (xrun Tryz.prog eaG 10000000) 2400 (gcK [1, 2, 3, 4, 5, 6, 7, 10, 11, 12, 13, 14, 15, 16, 17, 6673, 6674, 6675, 6684, 0, 8, 9] run) eaS1 [] eaT1_13 eaM1_13 eaH1_13 = run eaS1 [] eaT1_14 eaM1_14 eaH1_14 := by kernel_rfl
end Go.Proofs.YtbblephlijbehaaGreatDoor.En
