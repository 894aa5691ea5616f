/-
  DERIVED. GIVEN WITH THE SEED: THE CARDS: each row of YticjclllhjehfaaDoorRows.lean that lists a variable, with what it lists TIED to the program's text (the seventh form; the later family's looks); each row that meets fmt, with fmt's text TOLD by the authors' own Lean function (tested against real Go, not proved from fmt's source: count such statements apart). THE CARD IS WHAT COUNTS. Prove the row's statement (the work); the ties are given (YticjclllhjehfaaDoorTie.lean); close each card by the builder's one call (the guide's Derived/Test/ToyasCard.lean, 'card_holds'). Laid BY PROGRAM, IN A SANDBOX (cutbox-door.mjs). By AI agents, Wed Nov 11 2026. No macro, syntax, notation, axiom, sorry.
-/
import Derived.Test.YticjclllhjehfaaDoorRows
import GoSem.ClaimSeven
namespace Go.Proofs.YticjclllhjehfaaDoor
namespace Rows

/-- THE TIED CARD OF 'louvrelaw01.DecMany'. -/
def decManyCard : Claim7 := { stood := { row := decManyRow, standIns := [], harness := (true, "9e2c6cd9004df131a7f459c9d6c3a0868240283039e6c1c555de20dde787af40"), looks := false }, kinds := [], alts := [], laidByText := true, laidKinds := [.data, .data, .data, .data, .pinned], laidTests := true, laidLooks := .later }
def DecManyCardSaid : Prop := Claim7.holds Tryd.pinned (.plain (OpenSpec.ofChange decManySpec)) decManyCard

/-- THE TIED CARD OF 'louvrelaw01.DecTexts'. -/
def decTextsCard : Claim7 := { stood := { row := decTextsRow, standIns := [], harness := (true, "9e2c6cd9004df131a7f459c9d6c3a0868240283039e6c1c555de20dde787af40"), looks := false }, kinds := [], alts := [], laidByText := true, laidKinds := [.data, .data, .data, .data, .pinned], laidTests := true, laidLooks := .later }
def DecTextsCardSaid : Prop := Claim7.holds Tryd.pinned (.plain (OpenSpec.ofChange decTextsSpec)) decTextsCard

/-- THE TIED CARD OF 'louvrelaw01.DecExamples'. -/
def decExamplesCard : Claim7 := { stood := { row := decExamplesRow, standIns := [], harness := (true, "9e2c6cd9004df131a7f459c9d6c3a0868240283039e6c1c555de20dde787af40"), looks := false }, kinds := [], alts := [], laidByText := true, laidKinds := [.data, .data, .data, .data, .pinned], laidTests := true, laidLooks := .later }
def DecExamplesCardSaid : Prop := Claim7.holds Tryd.pinned (.plain (OpenSpec.ofChange decExamplesSpec)) decExamplesCard

/-- THE TIED CARD OF 'louvrelaw01.DecBack'. -/
def decBackCard : Claim7 := { stood := { row := decBackRow, standIns := [], harness := (true, "9e2c6cd9004df131a7f459c9d6c3a0868240283039e6c1c555de20dde787af40"), looks := false }, kinds := [], alts := [], laidByText := true, laidKinds := [.data, .data, .data, .data, .pinned], laidTests := true, laidLooks := .later }
def DecBackCardSaid : Prop := Claim7.holds Tryd.pinned (.plain (OpenSpec.ofChange decBackSpec)) decBackCard

/-- THE TIED CARD OF 'louvrelaw01.DecOrder'. -/
def decOrderCard : Claim7 := { stood := { row := decOrderRow, standIns := [], harness := (true, "9e2c6cd9004df131a7f459c9d6c3a0868240283039e6c1c555de20dde787af40"), looks := false }, kinds := [], alts := [], laidByText := true, laidKinds := [.data, .data, .data, .data, .pinned], laidTests := true, laidLooks := .later }
def DecOrderCardSaid : Prop := Claim7.holds Tryd.pinned (.plain (OpenSpec.ofChange decOrderSpec)) decOrderCard

/-- THE TIED CARD OF 'louvrelaw01.DecPlaces'. -/
def decPlacesCard : Claim7 := { stood := { row := decPlacesRow, standIns := [], harness := (true, "9e2c6cd9004df131a7f459c9d6c3a0868240283039e6c1c555de20dde787af40"), looks := false }, kinds := [], alts := [], laidByText := true, laidKinds := [.data, .data, .data, .data, .pinned], laidTests := true, laidLooks := .later }
def DecPlacesCardSaid : Prop := Claim7.holds Tryd.pinned (.plain (OpenSpec.ofChange decPlacesSpec)) decPlacesCard

/-- THE TIED CARD OF 'louvrelaw01.DecMeans'. -/
def decMeansCard : Claim7 := { stood := { row := decMeansRow, standIns := [], harness := (true, "9e2c6cd9004df131a7f459c9d6c3a0868240283039e6c1c555de20dde787af40"), looks := false }, kinds := [], alts := [], laidByText := true, laidKinds := [.data, .data, .data, .data, .pinned], laidTests := true, laidLooks := .later }
def DecMeansCardSaid : Prop := Claim7.holds Tryd.pinned (.plain (OpenSpec.ofChange decMeansSpec)) decMeansCard

/-- THE TIED CARD OF 'louvrelaw01.DecRoots'. -/
def decRootsCard : Claim7 := { stood := { row := decRootsRow, standIns := [], harness := (true, "9e2c6cd9004df131a7f459c9d6c3a0868240283039e6c1c555de20dde787af40"), looks := false }, kinds := [], alts := [], laidByText := true, laidKinds := [.data, .data, .data, .data, .pinned], laidTests := true, laidLooks := .later }
def DecRootsCardSaid : Prop := Claim7.holds Tryd.pinned (.plain (OpenSpec.ofChange decRootsSpec)) decRootsCard

/-- THE TIED CARD OF 'louvrelaw01.DecPowers'. -/
def decPowersCard : Claim7 := { stood := { row := decPowersRow, standIns := [], harness := (true, "9e2c6cd9004df131a7f459c9d6c3a0868240283039e6c1c555de20dde787af40"), looks := false }, kinds := [], alts := [], laidByText := true, laidKinds := [.data, .data, .data, .data, .pinned], laidTests := true, laidLooks := .later }
def DecPowersCardSaid : Prop := Claim7.holds Tryd.pinned (.plain (OpenSpec.ofChange decPowersSpec)) decPowersCard

/-- THE SECOND FORM's CARD OF 'louvrelaw01.DecMany'. -/
def decManyUptoCard : Claim7 := { stood := { row := decManyUptoRow, standIns := [], harness := (true, "9e2c6cd9004df131a7f459c9d6c3a0868240283039e6c1c555de20dde787af40"), looks := false }, kinds := [], alts := [], laidByText := true, laidKinds := [.data, .data, .data, .data, .pinned], laidTests := true, laidLooks := .later }
def DecManyUptoCardSaid : Prop := Claim7.holds Tryd.pinned (.plain (OpenSpec.upto decManySpec)) decManyUptoCard

/-- THE SECOND FORM's CARD OF 'louvrelaw01.DecTexts'. -/
def decTextsUptoCard : Claim7 := { stood := { row := decTextsUptoRow, standIns := [], harness := (true, "9e2c6cd9004df131a7f459c9d6c3a0868240283039e6c1c555de20dde787af40"), looks := false }, kinds := [], alts := [], laidByText := true, laidKinds := [.data, .data, .data, .data, .pinned], laidTests := true, laidLooks := .later }
def DecTextsUptoCardSaid : Prop := Claim7.holds Tryd.pinned (.plain (OpenSpec.upto decTextsSpec)) decTextsUptoCard

/-- THE SECOND FORM's CARD OF 'louvrelaw01.DecExamples'. -/
def decExamplesUptoCard : Claim7 := { stood := { row := decExamplesUptoRow, standIns := [], harness := (true, "9e2c6cd9004df131a7f459c9d6c3a0868240283039e6c1c555de20dde787af40"), looks := false }, kinds := [], alts := [], laidByText := true, laidKinds := [.data, .data, .data, .data, .pinned], laidTests := true, laidLooks := .later }
def DecExamplesUptoCardSaid : Prop := Claim7.holds Tryd.pinned (.plain (OpenSpec.upto decExamplesSpec)) decExamplesUptoCard

/-- THE SECOND FORM's CARD OF 'louvrelaw01.DecBack'. -/
def decBackUptoCard : Claim7 := { stood := { row := decBackUptoRow, standIns := [], harness := (true, "9e2c6cd9004df131a7f459c9d6c3a0868240283039e6c1c555de20dde787af40"), looks := false }, kinds := [], alts := [], laidByText := true, laidKinds := [.data, .data, .data, .data, .pinned], laidTests := true, laidLooks := .later }
def DecBackUptoCardSaid : Prop := Claim7.holds Tryd.pinned (.plain (OpenSpec.upto decBackSpec)) decBackUptoCard

/-- THE SECOND FORM's CARD OF 'louvrelaw01.DecOrder'. -/
def decOrderUptoCard : Claim7 := { stood := { row := decOrderUptoRow, standIns := [], harness := (true, "9e2c6cd9004df131a7f459c9d6c3a0868240283039e6c1c555de20dde787af40"), looks := false }, kinds := [], alts := [], laidByText := true, laidKinds := [.data, .data, .data, .data, .pinned], laidTests := true, laidLooks := .later }
def DecOrderUptoCardSaid : Prop := Claim7.holds Tryd.pinned (.plain (OpenSpec.upto decOrderSpec)) decOrderUptoCard

/-- THE SECOND FORM's CARD OF 'louvrelaw01.DecPlaces'. -/
def decPlacesUptoCard : Claim7 := { stood := { row := decPlacesUptoRow, standIns := [], harness := (true, "9e2c6cd9004df131a7f459c9d6c3a0868240283039e6c1c555de20dde787af40"), looks := false }, kinds := [], alts := [], laidByText := true, laidKinds := [.data, .data, .data, .data, .pinned], laidTests := true, laidLooks := .later }
def DecPlacesUptoCardSaid : Prop := Claim7.holds Tryd.pinned (.plain (OpenSpec.upto decPlacesSpec)) decPlacesUptoCard

/-- THE SECOND FORM's CARD OF 'louvrelaw01.DecMeans'. -/
def decMeansUptoCard : Claim7 := { stood := { row := decMeansUptoRow, standIns := [], harness := (true, "9e2c6cd9004df131a7f459c9d6c3a0868240283039e6c1c555de20dde787af40"), looks := false }, kinds := [], alts := [], laidByText := true, laidKinds := [.data, .data, .data, .data, .pinned], laidTests := true, laidLooks := .later }
def DecMeansUptoCardSaid : Prop := Claim7.holds Tryd.pinned (.plain (OpenSpec.upto decMeansSpec)) decMeansUptoCard

/-- THE SECOND FORM's CARD OF 'louvrelaw01.DecRoots'. -/
def decRootsUptoCard : Claim7 := { stood := { row := decRootsUptoRow, standIns := [], harness := (true, "9e2c6cd9004df131a7f459c9d6c3a0868240283039e6c1c555de20dde787af40"), looks := false }, kinds := [], alts := [], laidByText := true, laidKinds := [.data, .data, .data, .data, .pinned], laidTests := true, laidLooks := .later }
def DecRootsUptoCardSaid : Prop := Claim7.holds Tryd.pinned (.plain (OpenSpec.upto decRootsSpec)) decRootsUptoCard

/-- THE SECOND FORM's CARD OF 'louvrelaw01.DecPowers'. -/
def decPowersUptoCard : Claim7 := { stood := { row := decPowersUptoRow, standIns := [], harness := (true, "9e2c6cd9004df131a7f459c9d6c3a0868240283039e6c1c555de20dde787af40"), looks := false }, kinds := [], alts := [], laidByText := true, laidKinds := [.data, .data, .data, .data, .pinned], laidTests := true, laidLooks := .later }
def DecPowersUptoCardSaid : Prop := Claim7.holds Tryd.pinned (.plain (OpenSpec.upto decPowersSpec)) decPowersUptoCard
end Rows
end Go.Proofs.YticjclllhjehfaaDoor
