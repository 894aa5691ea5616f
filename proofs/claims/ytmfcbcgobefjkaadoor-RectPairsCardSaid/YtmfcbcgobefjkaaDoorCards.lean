/-
  DERIVED. GIVEN WITH THE SEED: THE CARDS: each row of YtmfcbcgobefjkaaDoorRows.lean that lists a variable, with what it lists TIED to the program's text (the seventh form; the later family's looks); each row that meets fmt, with fmt's text TOLD by the authors' own Lean function (tested against real Go, not proved from fmt's source: count such statements apart). THE CARD IS WHAT COUNTS. Prove the row's statement (the work); the ties are given (YtmfcbcgobefjkaaDoorTie.lean); close each card by the builder's one call (the guide's Derived/Test/ToyasCard.lean, 'card_holds'). Laid BY PROGRAM, IN A SANDBOX (cutbox-door.mjs). By AI agents, Wed Nov 11 2026. No macro, syntax, notation, axiom, sorry.
-/
import Derived.Test.YtmfcbcgobefjkaaDoorRows
import GoSem.ClaimSeven
namespace Go.Proofs.YtmfcbcgobefjkaaDoor
namespace Rows

/-- THE TIED CARD OF 'louvrelaw03.RectPairs'. -/
def rectPairsCard : Claim7 := { stood := { row := rectPairsRow, standIns := [], harness := (true, "b89fecdee19de8c05c5ff2ab6c4d57450df3ba7b8e2fcffb795a1c9ef388ed5a"), looks := false }, kinds := [], alts := [], laidByText := true, laidKinds := [.data, .data, .data], laidTests := true, laidLooks := .later }
def RectPairsCardSaid : Prop := Claim7.holds Tryd.pinned (.plain (OpenSpec.ofChange rectPairsSpec)) rectPairsCard

/-- THE TIED CARD OF 'louvrelaw03.RectCovers'. -/
def rectCoversCard : Claim7 := { stood := { row := rectCoversRow, standIns := [], harness := (true, "b89fecdee19de8c05c5ff2ab6c4d57450df3ba7b8e2fcffb795a1c9ef388ed5a"), looks := false }, kinds := [], alts := [], laidByText := true, laidKinds := [.data, .data, .data], laidTests := true, laidLooks := .later }
def RectCoversCardSaid : Prop := Claim7.holds Tryd.pinned (.plain (OpenSpec.ofChange rectCoversSpec)) rectCoversCard

/-- THE TIED CARD OF 'louvrelaw03.RectTexts'. -/
def rectTextsCard : Claim7 := { stood := { row := rectTextsRow, standIns := [], harness := (true, "b89fecdee19de8c05c5ff2ab6c4d57450df3ba7b8e2fcffb795a1c9ef388ed5a"), looks := false }, kinds := [], alts := [], laidByText := true, laidKinds := [.data, .data, .data], laidTests := true, laidLooks := .later }
def RectTextsCardSaid : Prop := Claim7.holds Tryd.pinned (.plain (OpenSpec.ofChange rectTextsSpec)) rectTextsCard

/-- THE TIED CARD OF 'louvrelaw03.RectExamples'. -/
def rectExamplesCard : Claim7 := { stood := { row := rectExamplesRow, standIns := [], harness := (true, "b89fecdee19de8c05c5ff2ab6c4d57450df3ba7b8e2fcffb795a1c9ef388ed5a"), looks := false }, kinds := [], alts := [], laidByText := true, laidKinds := [.data, .data, .data], laidTests := true, laidLooks := .later }
def RectExamplesCardSaid : Prop := Claim7.holds Tryd.pinned (.plain (OpenSpec.ofChange rectExamplesSpec)) rectExamplesCard

/-- THE TIED CARD OF 'louvrelaw03.RectCuts'. -/
def rectCutsCard : Claim7 := { stood := { row := rectCutsRow, standIns := [], harness := (true, "b89fecdee19de8c05c5ff2ab6c4d57450df3ba7b8e2fcffb795a1c9ef388ed5a"), looks := false }, kinds := [], alts := [], laidByText := true, laidKinds := [.data, .data, .data], laidTests := true, laidLooks := .later }
def RectCutsCardSaid : Prop := Claim7.holds Tryd.pinned (.plain (OpenSpec.ofChange rectCutsSpec)) rectCutsCard

/-- THE TIED CARD OF 'louvrelaw03.RectMeets'. -/
def rectMeetsCard : Claim7 := { stood := { row := rectMeetsRow, standIns := [], harness := (true, "b89fecdee19de8c05c5ff2ab6c4d57450df3ba7b8e2fcffb795a1c9ef388ed5a"), looks := false }, kinds := [], alts := [], laidByText := true, laidKinds := [.data, .data, .data], laidTests := true, laidLooks := .later }
def RectMeetsCardSaid : Prop := Claim7.holds Tryd.pinned (.plain (OpenSpec.ofChange rectMeetsSpec)) rectMeetsCard

/-- THE TIED CARD OF 'louvrelaw03.RectAll'. -/
def rectAllCard : Claim7 := { stood := { row := rectAllRow, standIns := [], harness := (true, "b89fecdee19de8c05c5ff2ab6c4d57450df3ba7b8e2fcffb795a1c9ef388ed5a"), looks := false }, kinds := [], alts := [], laidByText := true, laidKinds := [.data, .data, .data], laidTests := true, laidLooks := .later }
def RectAllCardSaid : Prop := Claim7.holds Tryd.pinned (.plain (OpenSpec.ofChange rectAllSpec)) rectAllCard

/-- THE TIED CARD OF 'louvrelaw03.RectBack'. -/
def rectBackCard : Claim7 := { stood := { row := rectBackRow, standIns := [], harness := (true, "b89fecdee19de8c05c5ff2ab6c4d57450df3ba7b8e2fcffb795a1c9ef388ed5a"), looks := false }, kinds := [], alts := [], laidByText := true, laidKinds := [.data, .data, .data], laidTests := true, laidLooks := .later }
def RectBackCardSaid : Prop := Claim7.holds Tryd.pinned (.plain (OpenSpec.ofChange rectBackSpec)) rectBackCard

/-- THE SECOND FORM's CARD OF 'louvrelaw03.RectPairs'. -/
def rectPairsUptoCard : Claim7 := { stood := { row := rectPairsUptoRow, standIns := [], harness := (true, "b89fecdee19de8c05c5ff2ab6c4d57450df3ba7b8e2fcffb795a1c9ef388ed5a"), looks := false }, kinds := [], alts := [], laidByText := true, laidKinds := [.data, .data, .data], laidTests := true, laidLooks := .later }
def RectPairsUptoCardSaid : Prop := Claim7.holds Tryd.pinned (.plain (OpenSpec.upto rectPairsSpec)) rectPairsUptoCard

/-- THE SECOND FORM's CARD OF 'louvrelaw03.RectCovers'. -/
def rectCoversUptoCard : Claim7 := { stood := { row := rectCoversUptoRow, standIns := [], harness := (true, "b89fecdee19de8c05c5ff2ab6c4d57450df3ba7b8e2fcffb795a1c9ef388ed5a"), looks := false }, kinds := [], alts := [], laidByText := true, laidKinds := [.data, .data, .data], laidTests := true, laidLooks := .later }
def RectCoversUptoCardSaid : Prop := Claim7.holds Tryd.pinned (.plain (OpenSpec.upto rectCoversSpec)) rectCoversUptoCard

/-- THE SECOND FORM's CARD OF 'louvrelaw03.RectTexts'. -/
def rectTextsUptoCard : Claim7 := { stood := { row := rectTextsUptoRow, standIns := [], harness := (true, "b89fecdee19de8c05c5ff2ab6c4d57450df3ba7b8e2fcffb795a1c9ef388ed5a"), looks := false }, kinds := [], alts := [], laidByText := true, laidKinds := [.data, .data, .data], laidTests := true, laidLooks := .later }
def RectTextsUptoCardSaid : Prop := Claim7.holds Tryd.pinned (.plain (OpenSpec.upto rectTextsSpec)) rectTextsUptoCard

/-- THE SECOND FORM's CARD OF 'louvrelaw03.RectExamples'. -/
def rectExamplesUptoCard : Claim7 := { stood := { row := rectExamplesUptoRow, standIns := [], harness := (true, "b89fecdee19de8c05c5ff2ab6c4d57450df3ba7b8e2fcffb795a1c9ef388ed5a"), looks := false }, kinds := [], alts := [], laidByText := true, laidKinds := [.data, .data, .data], laidTests := true, laidLooks := .later }
def RectExamplesUptoCardSaid : Prop := Claim7.holds Tryd.pinned (.plain (OpenSpec.upto rectExamplesSpec)) rectExamplesUptoCard

/-- THE SECOND FORM's CARD OF 'louvrelaw03.RectCuts'. -/
def rectCutsUptoCard : Claim7 := { stood := { row := rectCutsUptoRow, standIns := [], harness := (true, "b89fecdee19de8c05c5ff2ab6c4d57450df3ba7b8e2fcffb795a1c9ef388ed5a"), looks := false }, kinds := [], alts := [], laidByText := true, laidKinds := [.data, .data, .data], laidTests := true, laidLooks := .later }
def RectCutsUptoCardSaid : Prop := Claim7.holds Tryd.pinned (.plain (OpenSpec.upto rectCutsSpec)) rectCutsUptoCard

/-- THE SECOND FORM's CARD OF 'louvrelaw03.RectMeets'. -/
def rectMeetsUptoCard : Claim7 := { stood := { row := rectMeetsUptoRow, standIns := [], harness := (true, "b89fecdee19de8c05c5ff2ab6c4d57450df3ba7b8e2fcffb795a1c9ef388ed5a"), looks := false }, kinds := [], alts := [], laidByText := true, laidKinds := [.data, .data, .data], laidTests := true, laidLooks := .later }
def RectMeetsUptoCardSaid : Prop := Claim7.holds Tryd.pinned (.plain (OpenSpec.upto rectMeetsSpec)) rectMeetsUptoCard

/-- THE SECOND FORM's CARD OF 'louvrelaw03.RectAll'. -/
def rectAllUptoCard : Claim7 := { stood := { row := rectAllUptoRow, standIns := [], harness := (true, "b89fecdee19de8c05c5ff2ab6c4d57450df3ba7b8e2fcffb795a1c9ef388ed5a"), looks := false }, kinds := [], alts := [], laidByText := true, laidKinds := [.data, .data, .data], laidTests := true, laidLooks := .later }
def RectAllUptoCardSaid : Prop := Claim7.holds Tryd.pinned (.plain (OpenSpec.upto rectAllSpec)) rectAllUptoCard

/-- THE SECOND FORM's CARD OF 'louvrelaw03.RectBack'. -/
def rectBackUptoCard : Claim7 := { stood := { row := rectBackUptoRow, standIns := [], harness := (true, "b89fecdee19de8c05c5ff2ab6c4d57450df3ba7b8e2fcffb795a1c9ef388ed5a"), looks := false }, kinds := [], alts := [], laidByText := true, laidKinds := [.data, .data, .data], laidTests := true, laidLooks := .later }
def RectBackUptoCardSaid : Prop := Claim7.holds Tryd.pinned (.plain (OpenSpec.upto rectBackSpec)) rectBackUptoCard
end Rows
end Go.Proofs.YtmfcbcgobefjkaaDoor
