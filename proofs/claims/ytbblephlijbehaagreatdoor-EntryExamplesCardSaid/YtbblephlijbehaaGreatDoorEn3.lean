/- A run in segments: En3. -/
import Derived.Test.YtbblephlijbehaaGreatDoorEnD2
import Derived.KernelRfl
namespace Go.Proofs.YtbblephlijbehaaGreatDoor.En
open Go Go.RowKit Sx
set_option linter.unusedVariables false
set_option maxRecDepth 100000
theorem ea_seg1_3 (run : Run) : xseg Tryz.prog eaG (xrun Tryz.prog eaG 10000000) 6000 (gcK [1, 2, 3, 4, 5, 6, 7, 10, 11, 12, 13, 14, 15, 16, 17, 2620, 2621, 0, 8, 9] run) eaS1 [] eaT1_2 eaM1_2 eaH1_2 = run eaS1 [] eaT1_3 eaM1_3 eaH1_3 := by kernel_rfl
theorem ea_seg1_9 (run : Run) : xseg Tryz.prog eaG (xrun Tryz.prog eaG 10000000) 3000 (gcK [1, 2, 3, 4, 5, 6, 7, 10, 11, 12, 13, 14, 15, 16, 17, 5223, 5224, 5225, 5238, 0, 8, 9] run) eaS1 [] eaT1_8 eaM1_8 eaH1_8 = run eaS1 [] eaT1_9 eaM1_9 eaH1_9 := by kernel_rfl
theorem ea_seg1_15 (run : Run) : xseg Tryz.prog eaG (xrun Tryz.prog eaG 10000000) 2400 (gcK [1, 2, 3, 4, 5, 6, 7, 10, 11, 12, 13, 14, 15, 16, 17, 6934, 6935, 6936, 6947, 0, 8, 9] run) eaS1 [] eaT1_14 eaM1_14 eaH1_14 = run eaS1 [] eaT1_15 eaM1_15 eaH1_15 := by kernel_rfl
end Go.Proofs.YtbblephlijbehaaGreatDoor.En
