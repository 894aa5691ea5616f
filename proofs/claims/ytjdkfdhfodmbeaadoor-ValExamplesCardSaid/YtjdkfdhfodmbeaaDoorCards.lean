/-
  DERIVED. GIVEN WITH THE SEED: THE CARDS: each row of YtjdkfdhfodmbeaaDoorRows.lean that lists a variable, with what it lists TIED to the program's text (the seventh form; the later family's looks); each row that meets fmt, with fmt's text TOLD by the authors' own Lean function (tested against real Go, not proved from fmt's source: count such statements apart). THE CARD IS WHAT COUNTS. Prove the row's statement (the work); the ties are given (YtjdkfdhfodmbeaaDoorTie.lean); close each card by the builder's one call (the guide's Derived/Test/ToyasCard.lean, 'card_holds'). Laid BY PROGRAM, IN A SANDBOX (cutbox-door.mjs). By AI agents, Wed Nov 11 2026. No macro, syntax, notation, axiom, sorry.
-/
import Derived.Test.YtjdkfdhfodmbeaaDoorRows
import GoSem.ClaimSeven
namespace Go.Proofs.YtjdkfdhfodmbeaaDoor
namespace Rows

/-- THE TIED CARD OF 'louvrelaw03.RectExamples'. -/
def rectExamplesCard : Claim7 := { stood := { row := rectExamplesRow, standIns := [], harness := (true, "9915a5d77be9a6661eeaa0e0e2c93f0b34b4c5dd31bf545966f42b763cb5603a"), looks := true }, kinds := [], alts := [], laidByText := true, laidKinds := [.data, .data, .data], laidTests := true, laidLooks := .later }
def RectExamplesCardSaid : Prop := Claim7.holds Tryd.pinned (.plain (OpenSpec.ofChange rectExamplesSpec)) rectExamplesCard

/-- THE TIED CARD OF 'louvrelaw05.ValExamples'. -/
def valExamplesCard : Claim7 := { stood := { row := valExamplesRow, standIns := [], harness := (true, "9915a5d77be9a6661eeaa0e0e2c93f0b34b4c5dd31bf545966f42b763cb5603a"), looks := true }, kinds := [], alts := [], laidByText := true, laidKinds := [.data, .data, .data, .data, .data, .pinned], laidTests := true, laidLooks := .later }
def ValExamplesCardSaid : Prop := Claim7.holds Tryd.pinned (.plain (OpenSpec.ofChange valExamplesSpec)) valExamplesCard

/-- THE TIED CARD OF 'louvrelaw18.GroupExamples'. -/
def groupExamplesCard : Claim7 := { stood := { row := groupExamplesRow, standIns := [], harness := (true, "9915a5d77be9a6661eeaa0e0e2c93f0b34b4c5dd31bf545966f42b763cb5603a"), looks := true }, kinds := [], alts := [], laidByText := true, laidKinds := [.data, .data, .data, .data, .sentinel, .sentinel, .pinned], laidTests := true, laidLooks := .later }
def GroupExamplesCardSaid : Prop := Claim7.holds Tryd.pinned (.plain (OpenSpec.ofChange groupExamplesSpec)) groupExamplesCard

/-- THE SECOND FORM's CARD OF 'louvrelaw03.RectExamples'. -/
def rectExamplesUptoCard : Claim7 := { stood := { row := rectExamplesUptoRow, standIns := [], harness := (true, "9915a5d77be9a6661eeaa0e0e2c93f0b34b4c5dd31bf545966f42b763cb5603a"), looks := true }, kinds := [], alts := [], laidByText := true, laidKinds := [.data, .data, .data], laidTests := true, laidLooks := .later }
def RectExamplesUptoCardSaid : Prop := Claim7.holds Tryd.pinned (.plain (OpenSpec.upto rectExamplesSpec)) rectExamplesUptoCard

/-- THE SECOND FORM's CARD OF 'louvrelaw05.ValExamples'. -/
def valExamplesUptoCard : Claim7 := { stood := { row := valExamplesUptoRow, standIns := [], harness := (true, "9915a5d77be9a6661eeaa0e0e2c93f0b34b4c5dd31bf545966f42b763cb5603a"), looks := true }, kinds := [], alts := [], laidByText := true, laidKinds := [.data, .data, .data, .data, .data, .pinned], laidTests := true, laidLooks := .later }
def ValExamplesUptoCardSaid : Prop := Claim7.holds Tryd.pinned (.plain (OpenSpec.upto valExamplesSpec)) valExamplesUptoCard

/-- THE SECOND FORM's CARD OF 'louvrelaw18.GroupExamples'. -/
def groupExamplesUptoCard : Claim7 := { stood := { row := groupExamplesUptoRow, standIns := [], harness := (true, "9915a5d77be9a6661eeaa0e0e2c93f0b34b4c5dd31bf545966f42b763cb5603a"), looks := true }, kinds := [], alts := [], laidByText := true, laidKinds := [.data, .data, .data, .data, .sentinel, .sentinel, .pinned], laidTests := true, laidLooks := .later }
def GroupExamplesUptoCardSaid : Prop := Claim7.holds Tryd.pinned (.plain (OpenSpec.upto groupExamplesSpec)) groupExamplesUptoCard
end Rows
end Go.Proofs.YtjdkfdhfodmbeaaDoor
