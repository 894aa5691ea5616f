/-
  DERIVED. GIVEN WITH THE SEED: THE CARDS: each row of YtgoddihlonhibaaDoorRows.lean that lists a variable, with what it lists TIED to the program's text (the seventh form; the later family's looks); each row that meets fmt, with fmt's text TOLD by the authors' own Lean function (tested against real Go, not proved from fmt's source: count such statements apart). THE CARD IS WHAT COUNTS. Prove the row's statement (the work); the ties are given (YtgoddihlonhibaaDoorTie.lean); close each card by the builder's one call (the guide's Derived/Test/ToyasCard.lean, 'card_holds'). Laid BY PROGRAM, IN A SANDBOX (cutbox-door.mjs). By AI agents, Wed Nov 11 2026. No macro, syntax, notation, axiom, sorry.
-/
import Derived.Test.YtgoddihlonhibaaDoorRows
import GoSem.ClaimSeven
namespace Go.Proofs.YtgoddihlonhibaaDoor
namespace Rows

/-- THE TIED CARD OF 'louvrelaw04.GlyphTexts'. -/
def glyphTextsCard : Claim7 := { stood := { row := glyphTextsRow, standIns := [], harness := (true, "179f2c26f879fcf32ab3a0456e364123582b715bfc97371fd9180f969c7d4ff6"), looks := false }, kinds := [], alts := [], laidByText := true, laidKinds := [.data, .pinned], laidTests := true, laidLooks := .later }
def GlyphTextsCardSaid : Prop := Claim7.holds Tryd.pinned (.plain (OpenSpec.ofChange glyphTextsSpec)) glyphTextsCard

/-- THE TIED CARD OF 'louvrelaw04.GlyphCompares'. -/
def glyphComparesCard : Claim7 := { stood := { row := glyphComparesRow, standIns := [], harness := (true, "179f2c26f879fcf32ab3a0456e364123582b715bfc97371fd9180f969c7d4ff6"), looks := false }, kinds := [], alts := [], laidByText := true, laidKinds := [.data, .pinned], laidTests := true, laidLooks := .later }
def GlyphComparesCardSaid : Prop := Claim7.holds Tryd.pinned (.plain (OpenSpec.ofChange glyphComparesSpec)) glyphComparesCard

/-- THE TIED CARD OF 'louvrelaw04.GlyphExamples'. -/
def glyphExamplesCard : Claim7 := { stood := { row := glyphExamplesRow, standIns := [], harness := (true, "179f2c26f879fcf32ab3a0456e364123582b715bfc97371fd9180f969c7d4ff6"), looks := false }, kinds := [], alts := [], laidByText := true, laidKinds := [.data, .pinned], laidTests := true, laidLooks := .later }
def GlyphExamplesCardSaid : Prop := Claim7.holds Tryd.pinned (.plain (OpenSpec.ofChange glyphExamplesSpec)) glyphExamplesCard

/-- THE TIED CARD OF 'louvrelaw04.GlyphBack'. -/
def glyphBackCard : Claim7 := { stood := { row := glyphBackRow, standIns := [], harness := (true, "179f2c26f879fcf32ab3a0456e364123582b715bfc97371fd9180f969c7d4ff6"), looks := false }, kinds := [], alts := [], laidByText := true, laidKinds := [.data, .pinned], laidTests := true, laidLooks := .later }
def GlyphBackCardSaid : Prop := Claim7.holds Tryd.pinned (.plain (OpenSpec.ofChange glyphBackSpec)) glyphBackCard

/-- THE TIED CARD OF 'louvrelaw04.GlyphCapitals'. -/
def glyphCapitalsCard : Claim7 := { stood := { row := glyphCapitalsRow, standIns := [], harness := (true, "179f2c26f879fcf32ab3a0456e364123582b715bfc97371fd9180f969c7d4ff6"), looks := false }, kinds := [], alts := [], laidByText := true, laidKinds := [.data, .pinned], laidTests := true, laidLooks := .later }
def GlyphCapitalsCardSaid : Prop := Claim7.holds Tryd.pinned (.plain (OpenSpec.ofChange glyphCapitalsSpec)) glyphCapitalsCard

/-- THE TIED CARD OF 'louvrelaw04.GlyphTrims'. -/
def glyphTrimsCard : Claim7 := { stood := { row := glyphTrimsRow, standIns := [], harness := (true, "179f2c26f879fcf32ab3a0456e364123582b715bfc97371fd9180f969c7d4ff6"), looks := false }, kinds := [], alts := [], laidByText := true, laidKinds := [.data, .pinned], laidTests := true, laidLooks := .later }
def GlyphTrimsCardSaid : Prop := Claim7.holds Tryd.pinned (.plain (OpenSpec.ofChange glyphTrimsSpec)) glyphTrimsCard

/-- THE TIED CARD OF 'louvrelaw04.GlyphOrder'. -/
def glyphOrderCard : Claim7 := { stood := { row := glyphOrderRow, standIns := [], harness := (true, "179f2c26f879fcf32ab3a0456e364123582b715bfc97371fd9180f969c7d4ff6"), looks := false }, kinds := [], alts := [], laidByText := true, laidKinds := [.data, .pinned], laidTests := true, laidLooks := .later }
def GlyphOrderCardSaid : Prop := Claim7.holds Tryd.pinned (.plain (OpenSpec.ofChange glyphOrderSpec)) glyphOrderCard

/-- THE SECOND FORM's CARD OF 'louvrelaw04.GlyphTexts'. -/
def glyphTextsUptoCard : Claim7 := { stood := { row := glyphTextsUptoRow, standIns := [], harness := (true, "179f2c26f879fcf32ab3a0456e364123582b715bfc97371fd9180f969c7d4ff6"), looks := false }, kinds := [], alts := [], laidByText := true, laidKinds := [.data, .pinned], laidTests := true, laidLooks := .later }
def GlyphTextsUptoCardSaid : Prop := Claim7.holds Tryd.pinned (.plain (OpenSpec.upto glyphTextsSpec)) glyphTextsUptoCard

/-- THE SECOND FORM's CARD OF 'louvrelaw04.GlyphCompares'. -/
def glyphComparesUptoCard : Claim7 := { stood := { row := glyphComparesUptoRow, standIns := [], harness := (true, "179f2c26f879fcf32ab3a0456e364123582b715bfc97371fd9180f969c7d4ff6"), looks := false }, kinds := [], alts := [], laidByText := true, laidKinds := [.data, .pinned], laidTests := true, laidLooks := .later }
def GlyphComparesUptoCardSaid : Prop := Claim7.holds Tryd.pinned (.plain (OpenSpec.upto glyphComparesSpec)) glyphComparesUptoCard

/-- THE SECOND FORM's CARD OF 'louvrelaw04.GlyphExamples'. -/
def glyphExamplesUptoCard : Claim7 := { stood := { row := glyphExamplesUptoRow, standIns := [], harness := (true, "179f2c26f879fcf32ab3a0456e364123582b715bfc97371fd9180f969c7d4ff6"), looks := false }, kinds := [], alts := [], laidByText := true, laidKinds := [.data, .pinned], laidTests := true, laidLooks := .later }
def GlyphExamplesUptoCardSaid : Prop := Claim7.holds Tryd.pinned (.plain (OpenSpec.upto glyphExamplesSpec)) glyphExamplesUptoCard

/-- THE SECOND FORM's CARD OF 'louvrelaw04.GlyphBack'. -/
def glyphBackUptoCard : Claim7 := { stood := { row := glyphBackUptoRow, standIns := [], harness := (true, "179f2c26f879fcf32ab3a0456e364123582b715bfc97371fd9180f969c7d4ff6"), looks := false }, kinds := [], alts := [], laidByText := true, laidKinds := [.data, .pinned], laidTests := true, laidLooks := .later }
def GlyphBackUptoCardSaid : Prop := Claim7.holds Tryd.pinned (.plain (OpenSpec.upto glyphBackSpec)) glyphBackUptoCard

/-- THE SECOND FORM's CARD OF 'louvrelaw04.GlyphCapitals'. -/
def glyphCapitalsUptoCard : Claim7 := { stood := { row := glyphCapitalsUptoRow, standIns := [], harness := (true, "179f2c26f879fcf32ab3a0456e364123582b715bfc97371fd9180f969c7d4ff6"), looks := false }, kinds := [], alts := [], laidByText := true, laidKinds := [.data, .pinned], laidTests := true, laidLooks := .later }
def GlyphCapitalsUptoCardSaid : Prop := Claim7.holds Tryd.pinned (.plain (OpenSpec.upto glyphCapitalsSpec)) glyphCapitalsUptoCard

/-- THE SECOND FORM's CARD OF 'louvrelaw04.GlyphTrims'. -/
def glyphTrimsUptoCard : Claim7 := { stood := { row := glyphTrimsUptoRow, standIns := [], harness := (true, "179f2c26f879fcf32ab3a0456e364123582b715bfc97371fd9180f969c7d4ff6"), looks := false }, kinds := [], alts := [], laidByText := true, laidKinds := [.data, .pinned], laidTests := true, laidLooks := .later }
def GlyphTrimsUptoCardSaid : Prop := Claim7.holds Tryd.pinned (.plain (OpenSpec.upto glyphTrimsSpec)) glyphTrimsUptoCard

/-- THE SECOND FORM's CARD OF 'louvrelaw04.GlyphOrder'. -/
def glyphOrderUptoCard : Claim7 := { stood := { row := glyphOrderUptoRow, standIns := [], harness := (true, "179f2c26f879fcf32ab3a0456e364123582b715bfc97371fd9180f969c7d4ff6"), looks := false }, kinds := [], alts := [], laidByText := true, laidKinds := [.data, .pinned], laidTests := true, laidLooks := .later }
def GlyphOrderUptoCardSaid : Prop := Claim7.holds Tryd.pinned (.plain (OpenSpec.upto glyphOrderSpec)) glyphOrderUptoCard
end Rows
end Go.Proofs.YtgoddihlonhibaaDoor
