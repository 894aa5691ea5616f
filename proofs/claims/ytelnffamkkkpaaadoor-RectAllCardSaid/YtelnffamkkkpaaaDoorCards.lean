/-
  DERIVED. GIVEN WITH THE SEED: THE CARDS: each row of YtelnffamkkkpaaaDoorRows.lean that lists a variable, with what it lists TIED to the program's text (the seventh form; the later family's looks); each row that meets fmt, with fmt's text TOLD by the authors' own Lean function (tested against real Go, not proved from fmt's source: count such statements apart). THE CARD IS WHAT COUNTS. Prove the row's statement (the work); the ties are given (YtelnffamkkkpaaaDoorTie.lean); close each card by the builder's one call (the guide's Derived/Test/ToyasCard.lean, 'card_holds'). Laid BY PROGRAM, IN A SANDBOX (cutbox-door.mjs). By AI agents, Wed Nov 11 2026. No macro, syntax, notation, axiom, sorry.
-/
import Derived.Test.YtelnffamkkkpaaaDoorRows
import GoSem.ClaimSeven
namespace Go.Proofs.YtelnffamkkkpaaaDoor
namespace Rows

/-- THE TIED CARD OF 'louvrelaw03.RectCovers'. -/
def rectCoversCard : Claim7 := { stood := { row := rectCoversRow, standIns := [], harness := (true, "fe62586f0c3f7261d469091333d370123a9491e8990e5258afe724b2db0fedf8"), looks := true }, kinds := [], alts := [], laidByText := true, laidKinds := [.data, .data, .data], laidTests := true, laidLooks := .later }
def RectCoversCardSaid : Prop := Claim7.holds Tryd.pinned (.plain (OpenSpec.ofChange rectCoversSpec)) rectCoversCard

/-- THE TIED CARD OF 'louvrelaw03.RectAll'. -/
def rectAllCard : Claim7 := { stood := { row := rectAllRow, standIns := [], harness := (true, "fe62586f0c3f7261d469091333d370123a9491e8990e5258afe724b2db0fedf8"), looks := true }, kinds := [], alts := [], laidByText := true, laidKinds := [.data, .data, .data], laidTests := true, laidLooks := .later }
def RectAllCardSaid : Prop := Claim7.holds Tryd.pinned (.plain (OpenSpec.ofChange rectAllSpec)) rectAllCard

/-- THE TIED CARD OF 'louvrelaw18.GroupTexts'. -/
def groupTextsCard : Claim7 := { stood := { row := groupTextsRow, standIns := [], harness := (true, "fe62586f0c3f7261d469091333d370123a9491e8990e5258afe724b2db0fedf8"), looks := true }, kinds := [], alts := [], laidByText := true, laidKinds := [.data, .data, .data, .data, .sentinel, .sentinel, .pinned], laidTests := true, laidLooks := .later }
def GroupTextsCardSaid : Prop := Claim7.holds Tryd.pinned (.plain (OpenSpec.ofChange groupTextsSpec)) groupTextsCard

/-- THE TIED CARD OF 'louvrelaw18.GroupExamples'. -/
def groupExamplesCard : Claim7 := { stood := { row := groupExamplesRow, standIns := [], harness := (true, "fe62586f0c3f7261d469091333d370123a9491e8990e5258afe724b2db0fedf8"), looks := true }, kinds := [], alts := [], laidByText := true, laidKinds := [.data, .data, .data, .data, .sentinel, .sentinel, .pinned], laidTests := true, laidLooks := .later }
def GroupExamplesCardSaid : Prop := Claim7.holds Tryd.pinned (.plain (OpenSpec.ofChange groupExamplesSpec)) groupExamplesCard

/-- THE TIED CARD OF 'louvrelaw18.GroupBack'. -/
def groupBackCard : Claim7 := { stood := { row := groupBackRow, standIns := [], harness := (true, "fe62586f0c3f7261d469091333d370123a9491e8990e5258afe724b2db0fedf8"), looks := true }, kinds := [], alts := [], laidByText := true, laidKinds := [.data, .data, .data, .data, .sentinel, .sentinel, .pinned], laidTests := true, laidLooks := .later }
def GroupBackCardSaid : Prop := Claim7.holds Tryd.pinned (.plain (OpenSpec.ofChange groupBackSpec)) groupBackCard

/-- THE SECOND FORM's CARD OF 'louvrelaw03.RectCovers'. -/
def rectCoversUptoCard : Claim7 := { stood := { row := rectCoversUptoRow, standIns := [], harness := (true, "fe62586f0c3f7261d469091333d370123a9491e8990e5258afe724b2db0fedf8"), looks := true }, kinds := [], alts := [], laidByText := true, laidKinds := [.data, .data, .data], laidTests := true, laidLooks := .later }
def RectCoversUptoCardSaid : Prop := Claim7.holds Tryd.pinned (.plain (OpenSpec.upto rectCoversSpec)) rectCoversUptoCard

/-- THE SECOND FORM's CARD OF 'louvrelaw03.RectAll'. -/
def rectAllUptoCard : Claim7 := { stood := { row := rectAllUptoRow, standIns := [], harness := (true, "fe62586f0c3f7261d469091333d370123a9491e8990e5258afe724b2db0fedf8"), looks := true }, kinds := [], alts := [], laidByText := true, laidKinds := [.data, .data, .data], laidTests := true, laidLooks := .later }
def RectAllUptoCardSaid : Prop := Claim7.holds Tryd.pinned (.plain (OpenSpec.upto rectAllSpec)) rectAllUptoCard

/-- THE SECOND FORM's CARD OF 'louvrelaw18.GroupTexts'. -/
def groupTextsUptoCard : Claim7 := { stood := { row := groupTextsUptoRow, standIns := [], harness := (true, "fe62586f0c3f7261d469091333d370123a9491e8990e5258afe724b2db0fedf8"), looks := true }, kinds := [], alts := [], laidByText := true, laidKinds := [.data, .data, .data, .data, .sentinel, .sentinel, .pinned], laidTests := true, laidLooks := .later }
def GroupTextsUptoCardSaid : Prop := Claim7.holds Tryd.pinned (.plain (OpenSpec.upto groupTextsSpec)) groupTextsUptoCard

/-- THE SECOND FORM's CARD OF 'louvrelaw18.GroupExamples'. -/
def groupExamplesUptoCard : Claim7 := { stood := { row := groupExamplesUptoRow, standIns := [], harness := (true, "fe62586f0c3f7261d469091333d370123a9491e8990e5258afe724b2db0fedf8"), looks := true }, kinds := [], alts := [], laidByText := true, laidKinds := [.data, .data, .data, .data, .sentinel, .sentinel, .pinned], laidTests := true, laidLooks := .later }
def GroupExamplesUptoCardSaid : Prop := Claim7.holds Tryd.pinned (.plain (OpenSpec.upto groupExamplesSpec)) groupExamplesUptoCard

/-- THE SECOND FORM's CARD OF 'louvrelaw18.GroupBack'. -/
def groupBackUptoCard : Claim7 := { stood := { row := groupBackUptoRow, standIns := [], harness := (true, "fe62586f0c3f7261d469091333d370123a9491e8990e5258afe724b2db0fedf8"), looks := true }, kinds := [], alts := [], laidByText := true, laidKinds := [.data, .data, .data, .data, .sentinel, .sentinel, .pinned], laidTests := true, laidLooks := .later }
def GroupBackUptoCardSaid : Prop := Claim7.holds Tryd.pinned (.plain (OpenSpec.upto groupBackSpec)) groupBackUptoCard
end Rows
end Go.Proofs.YtelnffamkkkpaaaDoor
