/- A run in segments: En4. -/
import Derived.Test.YtbblephlijbehaaGreatDoorEnD2
import Derived.KernelRfl
namespace Go.Proofs.YtbblephlijbehaaGreatDoor.En
open Go Go.RowKit Sx
set_option linter.unusedVariables false
set_option maxRecDepth 100000
theorem ea_seg1_4 (run : Run) : xseg Tryz.prog eaG (xrun Tryz.prog eaG 10000000) 6000 (gcK [1, 2, 3, 4, 5, 6, 7, 10, 11, 12, 13, 14, 15, 16, 17, 3264, 3265, 0, 8, 9] run) eaS1 [] eaT1_3 eaM1_3 eaH1_3 = run eaS1 [] eaT1_4 eaM1_4 eaH1_4 := by kernel_rfl
theorem ea_seg1_10 (run : Run) : xseg Tryz.prog eaG (xrun Tryz.prog eaG 10000000) 2800 (gcK [1, 2, 3, 4, 5, 6, 7, 10, 11, 12, 13, 14, 15, 16, 17, 5542, 5543, 5544, 5553, 0, 8, 9] run) eaS1 [] eaT1_9 eaM1_9 eaH1_9 = run eaS1 [] eaT1_10 eaM1_10 eaH1_10 := by kernel_rfl
theorem ea_seg1_16 (run : Run) : xseg Tryz.prog eaG (xrun Tryz.prog eaG 10000000) 2000 (gcK [1, 2, 3, 4, 5, 6, 7, 10, 11, 12, 13, 14, 15, 16, 17, 7166, 7167, 7168, 0, 8, 9] run) eaS1 [] eaT1_15 eaM1_15 eaH1_15 = run eaS1 [] eaT1_16 eaM1_16 eaH1_16 := by kernel_rfl
end Go.Proofs.YtbblephlijbehaaGreatDoor.En
