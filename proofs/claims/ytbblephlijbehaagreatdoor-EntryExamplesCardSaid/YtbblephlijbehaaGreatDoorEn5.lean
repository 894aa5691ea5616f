/- A run in segments: En5. -/
import Derived.Test.YtbblephlijbehaaGreatDoorEnD2
import Derived.KernelRfl
namespace Go.Proofs.YtbblephlijbehaaGreatDoor.En
open Go Go.RowKit Sx
set_option linter.unusedVariables false
set_option maxRecDepth 100000
theorem ea_seg1_5 (run : Run) : xseg Tryz.prog eaG (xrun Tryz.prog eaG 10000000) 5000 (gcK [1, 2, 3, 4, 5, 6, 7, 10, 11, 12, 13, 14, 15, 16, 17, 3802, 3803, 3804, 0, 8, 9] run) eaS1 [] eaT1_4 eaM1_4 eaH1_4 = run eaS1 [] eaT1_5 eaM1_5 eaH1_5 := by kernel_rfl
theorem ea_seg1_11 (run : Run) : xseg Tryz.prog eaG (xrun Tryz.prog eaG 10000000) 2600 (gcK [1, 2, 3, 4, 5, 6, 7, 10, 11, 12, 13, 14, 15, 16, 17, 5832, 5833, 5834, 5843, 0, 8, 9] run) eaS1 [] eaT1_10 eaM1_10 eaH1_10 = run eaS1 [] eaT1_11 eaM1_11 eaH1_11 := by kernel_rfl
end Go.Proofs.YtbblephlijbehaaGreatDoor.En
