/-
  DERIVED. GIVEN WITH THE SEED: THE CARDS: each row of YtbkbikkieabcmaaDoorRows.lean that lists a variable, with what it lists TIED to the program's text (the seventh form; the later family's looks); each row that meets fmt, with fmt's text TOLD by the authors' own Lean function (tested against real Go, not proved from fmt's source: count such statements apart). THE CARD IS WHAT COUNTS. Prove the row's statement (the work); the ties are given (YtbkbikkieabcmaaDoorTie.lean); close each card by the builder's one call (the guide's Derived/Test/ToyasCard.lean, 'card_holds'). Laid BY PROGRAM, IN A SANDBOX (cutbox-door.mjs). By AI agents, Wed Nov 11 2026. No macro, syntax, notation, axiom, sorry.
-/
import Derived.Test.YtbkbikkieabcmaaDoorRows
import GoSem.ClaimSeven
namespace Go.Proofs.YtbkbikkieabcmaaDoor
namespace Rows

/-- THE TIED CARD OF 'louvrelaw03.RectMeets'. -/
def rectMeetsCard : Claim7 := { stood := { row := rectMeetsRow, standIns := [], harness := (true, "dbed6471f9adae3ea3594225e2635f845e40985a8e2cda38afe82ff8aee8d5f5"), looks := true }, kinds := [], alts := [], laidByText := true, laidKinds := [.data, .data, .data], laidTests := true, laidLooks := .later }
def RectMeetsCardSaid : Prop := Claim7.holds Tryd.pinned (.plain (OpenSpec.ofChange rectMeetsSpec)) rectMeetsCard

/-- THE TIED CARD OF 'louvrelaw03.RectCuts'. -/
def rectCutsCard : Claim7 := { stood := { row := rectCutsRow, standIns := [], harness := (true, "dbed6471f9adae3ea3594225e2635f845e40985a8e2cda38afe82ff8aee8d5f5"), looks := true }, kinds := [], alts := [], laidByText := true, laidKinds := [.data, .data, .data], laidTests := true, laidLooks := .later }
def RectCutsCardSaid : Prop := Claim7.holds Tryd.pinned (.plain (OpenSpec.ofChange rectCutsSpec)) rectCutsCard

/-- THE TIED CARD OF 'louvrelaw18.GroupTexts'. -/
def groupTextsCard : Claim7 := { stood := { row := groupTextsRow, standIns := [], harness := (true, "dbed6471f9adae3ea3594225e2635f845e40985a8e2cda38afe82ff8aee8d5f5"), looks := true }, kinds := [], alts := [], laidByText := true, laidKinds := [.data, .data, .data, .data, .sentinel, .sentinel, .pinned], laidTests := true, laidLooks := .later }
def GroupTextsCardSaid : Prop := Claim7.holds Tryd.pinned (.plain (OpenSpec.ofChange groupTextsSpec)) groupTextsCard

/-- THE TIED CARD OF 'louvrelaw18.GroupBack'. -/
def groupBackCard : Claim7 := { stood := { row := groupBackRow, standIns := [], harness := (true, "dbed6471f9adae3ea3594225e2635f845e40985a8e2cda38afe82ff8aee8d5f5"), looks := true }, kinds := [], alts := [], laidByText := true, laidKinds := [.data, .data, .data, .data, .sentinel, .sentinel, .pinned], laidTests := true, laidLooks := .later }
def GroupBackCardSaid : Prop := Claim7.holds Tryd.pinned (.plain (OpenSpec.ofChange groupBackSpec)) groupBackCard

/-- THE TIED CARD OF 'louvrelaw18.GroupExamples'. -/
def groupExamplesCard : Claim7 := { stood := { row := groupExamplesRow, standIns := [], harness := (true, "dbed6471f9adae3ea3594225e2635f845e40985a8e2cda38afe82ff8aee8d5f5"), looks := true }, kinds := [], alts := [], laidByText := true, laidKinds := [.data, .data, .data, .data, .sentinel, .sentinel, .pinned], laidTests := true, laidLooks := .later }
def GroupExamplesCardSaid : Prop := Claim7.holds Tryd.pinned (.plain (OpenSpec.ofChange groupExamplesSpec)) groupExamplesCard

/-- THE SECOND FORM's CARD OF 'louvrelaw03.RectMeets'. -/
def rectMeetsUptoCard : Claim7 := { stood := { row := rectMeetsUptoRow, standIns := [], harness := (true, "dbed6471f9adae3ea3594225e2635f845e40985a8e2cda38afe82ff8aee8d5f5"), looks := true }, kinds := [], alts := [], laidByText := true, laidKinds := [.data, .data, .data], laidTests := true, laidLooks := .later }
def RectMeetsUptoCardSaid : Prop := Claim7.holds Tryd.pinned (.plain (OpenSpec.upto rectMeetsSpec)) rectMeetsUptoCard

/-- THE SECOND FORM's CARD OF 'louvrelaw03.RectCuts'. -/
def rectCutsUptoCard : Claim7 := { stood := { row := rectCutsUptoRow, standIns := [], harness := (true, "dbed6471f9adae3ea3594225e2635f845e40985a8e2cda38afe82ff8aee8d5f5"), looks := true }, kinds := [], alts := [], laidByText := true, laidKinds := [.data, .data, .data], laidTests := true, laidLooks := .later }
def RectCutsUptoCardSaid : Prop := Claim7.holds Tryd.pinned (.plain (OpenSpec.upto rectCutsSpec)) rectCutsUptoCard

/-- THE SECOND FORM's CARD OF 'louvrelaw18.GroupTexts'. -/
def groupTextsUptoCard : Claim7 := { stood := { row := groupTextsUptoRow, standIns := [], harness := (true, "dbed6471f9adae3ea3594225e2635f845e40985a8e2cda38afe82ff8aee8d5f5"), looks := true }, kinds := [], alts := [], laidByText := true, laidKinds := [.data, .data, .data, .data, .sentinel, .sentinel, .pinned], laidTests := true, laidLooks := .later }
def GroupTextsUptoCardSaid : Prop := Claim7.holds Tryd.pinned (.plain (OpenSpec.upto groupTextsSpec)) groupTextsUptoCard

/-- THE SECOND FORM's CARD OF 'louvrelaw18.GroupBack'. -/
def groupBackUptoCard : Claim7 := { stood := { row := groupBackUptoRow, standIns := [], harness := (true, "dbed6471f9adae3ea3594225e2635f845e40985a8e2cda38afe82ff8aee8d5f5"), looks := true }, kinds := [], alts := [], laidByText := true, laidKinds := [.data, .data, .data, .data, .sentinel, .sentinel, .pinned], laidTests := true, laidLooks := .later }
def GroupBackUptoCardSaid : Prop := Claim7.holds Tryd.pinned (.plain (OpenSpec.upto groupBackSpec)) groupBackUptoCard

/-- THE SECOND FORM's CARD OF 'louvrelaw18.GroupExamples'. -/
def groupExamplesUptoCard : Claim7 := { stood := { row := groupExamplesUptoRow, standIns := [], harness := (true, "dbed6471f9adae3ea3594225e2635f845e40985a8e2cda38afe82ff8aee8d5f5"), looks := true }, kinds := [], alts := [], laidByText := true, laidKinds := [.data, .data, .data, .data, .sentinel, .sentinel, .pinned], laidTests := true, laidLooks := .later }
def GroupExamplesUptoCardSaid : Prop := Claim7.holds Tryd.pinned (.plain (OpenSpec.upto groupExamplesSpec)) groupExamplesUptoCard
end Rows
end Go.Proofs.YtbkbikkieabcmaaDoor
