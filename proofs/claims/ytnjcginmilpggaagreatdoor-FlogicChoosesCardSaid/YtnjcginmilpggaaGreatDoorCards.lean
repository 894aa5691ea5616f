/-
  DERIVED. GIVEN WITH THE SEED: THE CARDS: each row of YtnjcginmilpggaaGreatDoorRows.lean that lists a variable, with what it lists TIED to the program's text (the seventh form; the later family's looks); each row that meets fmt, with fmt's text TOLD by the authors' own Lean function (tested against real Go, not proved from fmt's source: count such statements apart). THE CARD IS WHAT COUNTS. Prove the row's statement (the work); the ties are given (YtnjcginmilpggaaGreatDoorTie.lean); close each card by the builder's one call (the guide's Derived/Test/ToyasCard.lean, 'card_holds'). Laid BY PROGRAM, IN A SANDBOX (cutbox-door.mjs). By AI agents, Wed Nov 11 2026. No macro, syntax, notation, axiom, sorry.
-/
import Derived.Test.YtnjcginmilpggaaGreatDoorRows
import GoSem.ClaimSeven
namespace Go.Proofs.YtnjcginmilpggaaGreatDoor
namespace Rows

/-- THE TIED CARD OF 'louvrelaw15.FlogicCalls'. -/
def flogicCallsCard : Claim7 := { stood := { row := flogicCallsRow, standIns := [], harness := (true, "239d840fc02c4802cba6b077ff74b26cec67e86b1b2554bb53b4b46fae7f9cbf"), looks := false }, kinds := [], alts := [], laidByText := true, laidKinds := [.data, .data, .data, .data, .pinned], laidTests := true, laidLooks := .later }
def FlogicCallsCardSaid : Prop := Claim7.holds Tryz.pinned (.plain (OpenSpec.ofChange flogicCallsSpec)) flogicCallsCard

/-- THE TIED CARD OF 'louvrelaw15.FlogicChooses'. -/
def flogicChoosesCard : Claim7 := { stood := { row := flogicChoosesRow, standIns := [], harness := (true, "239d840fc02c4802cba6b077ff74b26cec67e86b1b2554bb53b4b46fae7f9cbf"), looks := false }, kinds := [], alts := [], laidByText := true, laidKinds := [.data, .data, .data, .data, .pinned], laidTests := true, laidLooks := .later }
def FlogicChoosesCardSaid : Prop := Claim7.holds Tryz.pinned (.plain (OpenSpec.ofChange flogicChoosesSpec)) flogicChoosesCard

/-- THE TIED CARD OF 'louvrelaw15.FlogicFolds'. -/
def flogicFoldsCard : Claim7 := { stood := { row := flogicFoldsRow, standIns := [], harness := (true, "239d840fc02c4802cba6b077ff74b26cec67e86b1b2554bb53b4b46fae7f9cbf"), looks := false }, kinds := [], alts := [], laidByText := true, laidKinds := [.data, .data, .data, .data, .pinned], laidTests := true, laidLooks := .later }
def FlogicFoldsCardSaid : Prop := Claim7.holds Tryz.pinned (.plain (OpenSpec.ofChange flogicFoldsSpec)) flogicFoldsCard

/-- THE TIED CARD OF 'louvrelaw15.FlogicErrors'. -/
def flogicErrorsCard : Claim7 := { stood := { row := flogicErrorsRow, standIns := [], harness := (true, "239d840fc02c4802cba6b077ff74b26cec67e86b1b2554bb53b4b46fae7f9cbf"), looks := false }, kinds := [], alts := [], laidByText := true, laidKinds := [.data, .data, .data, .data, .pinned], laidTests := true, laidLooks := .later }
def FlogicErrorsCardSaid : Prop := Claim7.holds Tryz.pinned (.plain (OpenSpec.ofChange flogicErrorsSpec)) flogicErrorsCard

/-- THE SECOND FORM's CARD OF 'louvrelaw15.FlogicCalls'. -/
def flogicCallsUptoCard : Claim7 := { stood := { row := flogicCallsUptoRow, standIns := [], harness := (true, "239d840fc02c4802cba6b077ff74b26cec67e86b1b2554bb53b4b46fae7f9cbf"), looks := false }, kinds := [], alts := [], laidByText := true, laidKinds := [.data, .data, .data, .data, .pinned], laidTests := true, laidLooks := .later }
def FlogicCallsUptoCardSaid : Prop := Claim7.holds Tryz.pinned (.plain (OpenSpec.upto flogicCallsSpec)) flogicCallsUptoCard

/-- THE SECOND FORM's CARD OF 'louvrelaw15.FlogicChooses'. -/
def flogicChoosesUptoCard : Claim7 := { stood := { row := flogicChoosesUptoRow, standIns := [], harness := (true, "239d840fc02c4802cba6b077ff74b26cec67e86b1b2554bb53b4b46fae7f9cbf"), looks := false }, kinds := [], alts := [], laidByText := true, laidKinds := [.data, .data, .data, .data, .pinned], laidTests := true, laidLooks := .later }
def FlogicChoosesUptoCardSaid : Prop := Claim7.holds Tryz.pinned (.plain (OpenSpec.upto flogicChoosesSpec)) flogicChoosesUptoCard

/-- THE SECOND FORM's CARD OF 'louvrelaw15.FlogicFolds'. -/
def flogicFoldsUptoCard : Claim7 := { stood := { row := flogicFoldsUptoRow, standIns := [], harness := (true, "239d840fc02c4802cba6b077ff74b26cec67e86b1b2554bb53b4b46fae7f9cbf"), looks := false }, kinds := [], alts := [], laidByText := true, laidKinds := [.data, .data, .data, .data, .pinned], laidTests := true, laidLooks := .later }
def FlogicFoldsUptoCardSaid : Prop := Claim7.holds Tryz.pinned (.plain (OpenSpec.upto flogicFoldsSpec)) flogicFoldsUptoCard

/-- THE SECOND FORM's CARD OF 'louvrelaw15.FlogicErrors'. -/
def flogicErrorsUptoCard : Claim7 := { stood := { row := flogicErrorsUptoRow, standIns := [], harness := (true, "239d840fc02c4802cba6b077ff74b26cec67e86b1b2554bb53b4b46fae7f9cbf"), looks := false }, kinds := [], alts := [], laidByText := true, laidKinds := [.data, .data, .data, .data, .pinned], laidTests := true, laidLooks := .later }
def FlogicErrorsUptoCardSaid : Prop := Claim7.holds Tryz.pinned (.plain (OpenSpec.upto flogicErrorsSpec)) flogicErrorsUptoCard
end Rows
end Go.Proofs.YtnjcginmilpggaaGreatDoor
