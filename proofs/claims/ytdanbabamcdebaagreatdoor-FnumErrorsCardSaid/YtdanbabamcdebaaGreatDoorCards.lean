/-
  DERIVED. GIVEN WITH THE SEED: THE CARDS: each row of YtdanbabamcdebaaGreatDoorRows.lean that lists a variable, with what it lists TIED to the program's text (the seventh form; the later family's looks); each row that meets fmt, with fmt's text TOLD by the authors' own Lean function (tested against real Go, not proved from fmt's source: count such statements apart). THE CARD IS WHAT COUNTS. Prove the row's statement (the work); the ties are given (YtdanbabamcdebaaGreatDoorTie.lean); close each card by the builder's one call (the guide's Derived/Test/ToyasCard.lean, 'card_holds'). Laid BY PROGRAM, IN A SANDBOX (cutbox-door.mjs). By AI agents, Wed Nov 11 2026. No macro, syntax, notation, axiom, sorry.
-/
import Derived.Test.YtdanbabamcdebaaGreatDoorRows
import GoSem.ClaimSeven
namespace Go.Proofs.YtdanbabamcdebaaGreatDoor
namespace Rows

/-- THE TIED CARD OF 'louvrelaw13.FnumMods'. -/
def fnumModsCard : Claim7 := { stood := { row := fnumModsRow, standIns := [], harness := (true, "d5e96a6b99d7015b14ae1bea838a3acb46e90a8d9f55627e615a83a1e6943926"), looks := false }, kinds := [], alts := [], laidByText := true, laidKinds := [.data, .data, .data, .data, .pinned], laidTests := true, laidLooks := .later }
def FnumModsCardSaid : Prop := Claim7.holds Tryz.pinned (.plain (OpenSpec.ofChange fnumModsSpec)) fnumModsCard

/-- THE TIED CARD OF 'louvrelaw13.FnumRounds'. -/
def fnumRoundsCard : Claim7 := { stood := { row := fnumRoundsRow, standIns := [], harness := (true, "d5e96a6b99d7015b14ae1bea838a3acb46e90a8d9f55627e615a83a1e6943926"), looks := false }, kinds := [], alts := [], laidByText := true, laidKinds := [.data, .data, .data, .data, .pinned], laidTests := true, laidLooks := .later }
def FnumRoundsCardSaid : Prop := Claim7.holds Tryz.pinned (.plain (OpenSpec.ofChange fnumRoundsSpec)) fnumRoundsCard

/-- THE TIED CARD OF 'louvrelaw13.FnumSigns'. -/
def fnumSignsCard : Claim7 := { stood := { row := fnumSignsRow, standIns := [], harness := (true, "d5e96a6b99d7015b14ae1bea838a3acb46e90a8d9f55627e615a83a1e6943926"), looks := false }, kinds := [], alts := [], laidByText := true, laidKinds := [.data, .data, .data, .data, .pinned], laidTests := true, laidLooks := .later }
def FnumSignsCardSaid : Prop := Claim7.holds Tryz.pinned (.plain (OpenSpec.ofChange fnumSignsSpec)) fnumSignsCard

/-- THE TIED CARD OF 'louvrelaw13.FnumBinaries'. -/
def fnumBinariesCard : Claim7 := { stood := { row := fnumBinariesRow, standIns := [], harness := (true, "d5e96a6b99d7015b14ae1bea838a3acb46e90a8d9f55627e615a83a1e6943926"), looks := false }, kinds := [], alts := [], laidByText := true, laidKinds := [.data, .data, .data, .data, .pinned], laidTests := true, laidLooks := .later }
def FnumBinariesCardSaid : Prop := Claim7.holds Tryz.pinned (.plain (OpenSpec.ofChange fnumBinariesSpec)) fnumBinariesCard

/-- THE TIED CARD OF 'louvrelaw13.FnumErrors'. -/
def fnumErrorsCard : Claim7 := { stood := { row := fnumErrorsRow, standIns := [], harness := (true, "d5e96a6b99d7015b14ae1bea838a3acb46e90a8d9f55627e615a83a1e6943926"), looks := false }, kinds := [], alts := [], laidByText := true, laidKinds := [.data, .data, .data, .data, .pinned], laidTests := true, laidLooks := .later }
def FnumErrorsCardSaid : Prop := Claim7.holds Tryz.pinned (.plain (OpenSpec.ofChange fnumErrorsSpec)) fnumErrorsCard

/-- THE TIED CARD OF 'louvrelaw13.FnumOrder'. -/
def fnumOrderCard : Claim7 := { stood := { row := fnumOrderRow, standIns := [], harness := (true, "d5e96a6b99d7015b14ae1bea838a3acb46e90a8d9f55627e615a83a1e6943926"), looks := false }, kinds := [], alts := [], laidByText := true, laidKinds := [.data, .data, .data, .data, .pinned], laidTests := true, laidLooks := .later }
def FnumOrderCardSaid : Prop := Claim7.holds Tryz.pinned (.plain (OpenSpec.ofChange fnumOrderSpec)) fnumOrderCard

/-- THE TIED CARD OF 'louvrelaw13.FnumCalls'. -/
def fnumCallsCard : Claim7 := { stood := { row := fnumCallsRow, standIns := [], harness := (true, "d5e96a6b99d7015b14ae1bea838a3acb46e90a8d9f55627e615a83a1e6943926"), looks := false }, kinds := [], alts := [], laidByText := true, laidKinds := [.data, .data, .data, .data, .pinned], laidTests := true, laidLooks := .later }
def FnumCallsCardSaid : Prop := Claim7.holds Tryz.pinned (.plain (OpenSpec.ofChange fnumCallsSpec)) fnumCallsCard

/-- THE SECOND FORM's CARD OF 'louvrelaw13.FnumMods'. -/
def fnumModsUptoCard : Claim7 := { stood := { row := fnumModsUptoRow, standIns := [], harness := (true, "d5e96a6b99d7015b14ae1bea838a3acb46e90a8d9f55627e615a83a1e6943926"), looks := false }, kinds := [], alts := [], laidByText := true, laidKinds := [.data, .data, .data, .data, .pinned], laidTests := true, laidLooks := .later }
def FnumModsUptoCardSaid : Prop := Claim7.holds Tryz.pinned (.plain (OpenSpec.upto fnumModsSpec)) fnumModsUptoCard

/-- THE SECOND FORM's CARD OF 'louvrelaw13.FnumRounds'. -/
def fnumRoundsUptoCard : Claim7 := { stood := { row := fnumRoundsUptoRow, standIns := [], harness := (true, "d5e96a6b99d7015b14ae1bea838a3acb46e90a8d9f55627e615a83a1e6943926"), looks := false }, kinds := [], alts := [], laidByText := true, laidKinds := [.data, .data, .data, .data, .pinned], laidTests := true, laidLooks := .later }
def FnumRoundsUptoCardSaid : Prop := Claim7.holds Tryz.pinned (.plain (OpenSpec.upto fnumRoundsSpec)) fnumRoundsUptoCard

/-- THE SECOND FORM's CARD OF 'louvrelaw13.FnumSigns'. -/
def fnumSignsUptoCard : Claim7 := { stood := { row := fnumSignsUptoRow, standIns := [], harness := (true, "d5e96a6b99d7015b14ae1bea838a3acb46e90a8d9f55627e615a83a1e6943926"), looks := false }, kinds := [], alts := [], laidByText := true, laidKinds := [.data, .data, .data, .data, .pinned], laidTests := true, laidLooks := .later }
def FnumSignsUptoCardSaid : Prop := Claim7.holds Tryz.pinned (.plain (OpenSpec.upto fnumSignsSpec)) fnumSignsUptoCard

/-- THE SECOND FORM's CARD OF 'louvrelaw13.FnumBinaries'. -/
def fnumBinariesUptoCard : Claim7 := { stood := { row := fnumBinariesUptoRow, standIns := [], harness := (true, "d5e96a6b99d7015b14ae1bea838a3acb46e90a8d9f55627e615a83a1e6943926"), looks := false }, kinds := [], alts := [], laidByText := true, laidKinds := [.data, .data, .data, .data, .pinned], laidTests := true, laidLooks := .later }
def FnumBinariesUptoCardSaid : Prop := Claim7.holds Tryz.pinned (.plain (OpenSpec.upto fnumBinariesSpec)) fnumBinariesUptoCard

/-- THE SECOND FORM's CARD OF 'louvrelaw13.FnumErrors'. -/
def fnumErrorsUptoCard : Claim7 := { stood := { row := fnumErrorsUptoRow, standIns := [], harness := (true, "d5e96a6b99d7015b14ae1bea838a3acb46e90a8d9f55627e615a83a1e6943926"), looks := false }, kinds := [], alts := [], laidByText := true, laidKinds := [.data, .data, .data, .data, .pinned], laidTests := true, laidLooks := .later }
def FnumErrorsUptoCardSaid : Prop := Claim7.holds Tryz.pinned (.plain (OpenSpec.upto fnumErrorsSpec)) fnumErrorsUptoCard

/-- THE SECOND FORM's CARD OF 'louvrelaw13.FnumOrder'. -/
def fnumOrderUptoCard : Claim7 := { stood := { row := fnumOrderUptoRow, standIns := [], harness := (true, "d5e96a6b99d7015b14ae1bea838a3acb46e90a8d9f55627e615a83a1e6943926"), looks := false }, kinds := [], alts := [], laidByText := true, laidKinds := [.data, .data, .data, .data, .pinned], laidTests := true, laidLooks := .later }
def FnumOrderUptoCardSaid : Prop := Claim7.holds Tryz.pinned (.plain (OpenSpec.upto fnumOrderSpec)) fnumOrderUptoCard

/-- THE SECOND FORM's CARD OF 'louvrelaw13.FnumCalls'. -/
def fnumCallsUptoCard : Claim7 := { stood := { row := fnumCallsUptoRow, standIns := [], harness := (true, "d5e96a6b99d7015b14ae1bea838a3acb46e90a8d9f55627e615a83a1e6943926"), looks := false }, kinds := [], alts := [], laidByText := true, laidKinds := [.data, .data, .data, .data, .pinned], laidTests := true, laidLooks := .later }
def FnumCallsUptoCardSaid : Prop := Claim7.holds Tryz.pinned (.plain (OpenSpec.upto fnumCallsSpec)) fnumCallsUptoCard
end Rows
end Go.Proofs.YtdanbabamcdebaaGreatDoor
