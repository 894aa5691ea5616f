/-
  DERIVED. GIVEN WITH THE SEED: THE CARDS: each row of YtdhahiodnmmkeaaGreatDoorRows.lean that lists a variable, with what it lists TIED to the program's text (the seventh form; the later family's looks); each row that meets fmt, with fmt's text TOLD by the authors' own Lean function (tested against real Go, not proved from fmt's source: count such statements apart). THE CARD IS WHAT COUNTS. Prove the row's statement (the work); the ties are given (YtdhahiodnmmkeaaGreatDoorTie.lean); close each card by the builder's one call (the guide's Derived/Test/ToyasCard.lean, 'card_holds'). Laid BY PROGRAM, IN A SANDBOX (cutbox-door.mjs). By AI agents, Wed Nov 11 2026. No macro, syntax, notation, axiom, sorry.
-/
import Derived.Test.YtdhahiodnmmkeaaGreatDoorRows
import GoSem.ClaimSeven
namespace Go.Proofs.YtdhahiodnmmkeaaGreatDoor
namespace Rows

/-- THE TIED CARD OF 'louvrelaw13.FnumExamples'. -/
def fnumExamplesCard : Claim7 := { stood := { row := fnumExamplesRow, standIns := [], harness := (true, "c280bca51745e53d92522a9269876ee96d7e542ff87829203943b247832b2afa"), looks := false }, kinds := [], alts := [], laidByText := true, laidKinds := [.data, .data, .data, .data, .pinned], laidTests := true, laidLooks := .later }
def FnumExamplesCardSaid : Prop := Claim7.holds Tryz.pinned (.plain (OpenSpec.ofChange fnumExamplesSpec)) fnumExamplesCard

/-- THE TIED CARD OF 'louvrelaw14.FtextExamples'. -/
def ftextExamplesCard : Claim7 := { stood := { row := ftextExamplesRow, standIns := [], harness := (true, "c280bca51745e53d92522a9269876ee96d7e542ff87829203943b247832b2afa"), looks := false }, kinds := [], alts := [], laidByText := true, laidKinds := [.data, .data, .data, .data, .pinned], laidTests := true, laidLooks := .later }
def FtextExamplesCardSaid : Prop := Claim7.holds Tryz.pinned (.plain (OpenSpec.ofChange ftextExamplesSpec)) ftextExamplesCard

/-- THE TIED CARD OF 'louvrelaw15.FlogicExamples'. -/
def flogicExamplesCard : Claim7 := { stood := { row := flogicExamplesRow, standIns := [], harness := (true, "c280bca51745e53d92522a9269876ee96d7e542ff87829203943b247832b2afa"), looks := false }, kinds := [], alts := [], laidByText := true, laidKinds := [.data, .data, .data, .data, .pinned], laidTests := true, laidLooks := .later }
def FlogicExamplesCardSaid : Prop := Claim7.holds Tryz.pinned (.plain (OpenSpec.ofChange flogicExamplesSpec)) flogicExamplesCard

/-- THE TIED CARD OF 'louvrelaw15.FlogicFolds'. -/
def flogicFoldsCard : Claim7 := { stood := { row := flogicFoldsRow, standIns := [], harness := (true, "c280bca51745e53d92522a9269876ee96d7e542ff87829203943b247832b2afa"), looks := false }, kinds := [], alts := [], laidByText := true, laidKinds := [.data, .data, .data, .data, .pinned], laidTests := true, laidLooks := .later }
def FlogicFoldsCardSaid : Prop := Claim7.holds Tryz.pinned (.plain (OpenSpec.ofChange flogicFoldsSpec)) flogicFoldsCard

/-- THE TIED CARD OF 'louvrelaw15.FlogicErrors'. -/
def flogicErrorsCard : Claim7 := { stood := { row := flogicErrorsRow, standIns := [], harness := (true, "c280bca51745e53d92522a9269876ee96d7e542ff87829203943b247832b2afa"), looks := false }, kinds := [], alts := [], laidByText := true, laidKinds := [.data, .data, .data, .data, .pinned], laidTests := true, laidLooks := .later }
def FlogicErrorsCardSaid : Prop := Claim7.holds Tryz.pinned (.plain (OpenSpec.ofChange flogicErrorsSpec)) flogicErrorsCard

/-- THE SECOND FORM's CARD OF 'louvrelaw13.FnumExamples'. -/
def fnumExamplesUptoCard : Claim7 := { stood := { row := fnumExamplesUptoRow, standIns := [], harness := (true, "c280bca51745e53d92522a9269876ee96d7e542ff87829203943b247832b2afa"), looks := false }, kinds := [], alts := [], laidByText := true, laidKinds := [.data, .data, .data, .data, .pinned], laidTests := true, laidLooks := .later }
def FnumExamplesUptoCardSaid : Prop := Claim7.holds Tryz.pinned (.plain (OpenSpec.upto fnumExamplesSpec)) fnumExamplesUptoCard

/-- THE SECOND FORM's CARD OF 'louvrelaw14.FtextExamples'. -/
def ftextExamplesUptoCard : Claim7 := { stood := { row := ftextExamplesUptoRow, standIns := [], harness := (true, "c280bca51745e53d92522a9269876ee96d7e542ff87829203943b247832b2afa"), looks := false }, kinds := [], alts := [], laidByText := true, laidKinds := [.data, .data, .data, .data, .pinned], laidTests := true, laidLooks := .later }
def FtextExamplesUptoCardSaid : Prop := Claim7.holds Tryz.pinned (.plain (OpenSpec.upto ftextExamplesSpec)) ftextExamplesUptoCard

/-- THE SECOND FORM's CARD OF 'louvrelaw15.FlogicExamples'. -/
def flogicExamplesUptoCard : Claim7 := { stood := { row := flogicExamplesUptoRow, standIns := [], harness := (true, "c280bca51745e53d92522a9269876ee96d7e542ff87829203943b247832b2afa"), looks := false }, kinds := [], alts := [], laidByText := true, laidKinds := [.data, .data, .data, .data, .pinned], laidTests := true, laidLooks := .later }
def FlogicExamplesUptoCardSaid : Prop := Claim7.holds Tryz.pinned (.plain (OpenSpec.upto flogicExamplesSpec)) flogicExamplesUptoCard

/-- THE SECOND FORM's CARD OF 'louvrelaw15.FlogicFolds'. -/
def flogicFoldsUptoCard : Claim7 := { stood := { row := flogicFoldsUptoRow, standIns := [], harness := (true, "c280bca51745e53d92522a9269876ee96d7e542ff87829203943b247832b2afa"), looks := false }, kinds := [], alts := [], laidByText := true, laidKinds := [.data, .data, .data, .data, .pinned], laidTests := true, laidLooks := .later }
def FlogicFoldsUptoCardSaid : Prop := Claim7.holds Tryz.pinned (.plain (OpenSpec.upto flogicFoldsSpec)) flogicFoldsUptoCard

/-- THE SECOND FORM's CARD OF 'louvrelaw15.FlogicErrors'. -/
def flogicErrorsUptoCard : Claim7 := { stood := { row := flogicErrorsUptoRow, standIns := [], harness := (true, "c280bca51745e53d92522a9269876ee96d7e542ff87829203943b247832b2afa"), looks := false }, kinds := [], alts := [], laidByText := true, laidKinds := [.data, .data, .data, .data, .pinned], laidTests := true, laidLooks := .later }
def FlogicErrorsUptoCardSaid : Prop := Claim7.holds Tryz.pinned (.plain (OpenSpec.upto flogicErrorsSpec)) flogicErrorsUptoCard
end Rows
end Go.Proofs.YtdhahiodnmmkeaaGreatDoor
