/-
  DERIVED. GIVEN WITH THE SEED: THE CARDS: each row of YtgedckloooilfaaDoorRows.lean that lists a variable, with what it lists TIED to the program's text (the seventh form; the later family's looks); each row that meets fmt, with fmt's text TOLD by the authors' own Lean function (tested against real Go, not proved from fmt's source: count such statements apart). THE CARD IS WHAT COUNTS. Prove the row's statement (the work); the ties are given (YtgedckloooilfaaDoorTie.lean); close each card by the builder's one call (the guide's Derived/Test/ToyasCard.lean, 'card_holds'). Laid BY PROGRAM, IN A SANDBOX (cutbox-door.mjs). By AI agents, Wed Nov 11 2026. No macro, syntax, notation, axiom, sorry.
-/
import Derived.Test.YtgedckloooilfaaDoorRows
import GoSem.ClaimSeven
namespace Go.Proofs.YtgedckloooilfaaDoor
namespace Rows

/-- THE TIED CARD OF 'louvrelaw01.DecTexts'. -/
def decTextsCard : Claim7 := { stood := { row := decTextsRow, standIns := [], harness := (true, "a817c42b01682dd6c654142b9db08085eb4c19bb36ddfb422bda157dc7fe6263"), looks := true }, kinds := [], alts := [], laidByText := true, laidKinds := [.data, .data, .data, .data, .pinned], laidTests := true, laidLooks := .later }
def DecTextsCardSaid : Prop := Claim7.holds Tryd.pinned (.plain (OpenSpec.ofChange decTextsSpec)) decTextsCard

/-- THE TIED CARD OF 'louvrelaw01.DecExamples'. -/
def decExamplesCard : Claim7 := { stood := { row := decExamplesRow, standIns := [], harness := (true, "a817c42b01682dd6c654142b9db08085eb4c19bb36ddfb422bda157dc7fe6263"), looks := true }, kinds := [], alts := [], laidByText := true, laidKinds := [.data, .data, .data, .data, .pinned], laidTests := true, laidLooks := .later }
def DecExamplesCardSaid : Prop := Claim7.holds Tryd.pinned (.plain (OpenSpec.ofChange decExamplesSpec)) decExamplesCard

/-- THE TIED CARD OF 'louvrelaw01.DecBack'. -/
def decBackCard : Claim7 := { stood := { row := decBackRow, standIns := [], harness := (true, "a817c42b01682dd6c654142b9db08085eb4c19bb36ddfb422bda157dc7fe6263"), looks := true }, kinds := [], alts := [], laidByText := true, laidKinds := [.data, .data, .data, .data, .pinned], laidTests := true, laidLooks := .later }
def DecBackCardSaid : Prop := Claim7.holds Tryd.pinned (.plain (OpenSpec.ofChange decBackSpec)) decBackCard

/-- THE TIED CARD OF 'louvrelaw02.AddrReads'. -/
def addrReadsCard : Claim7 := { stood := { row := addrReadsRow, standIns := [], harness := (true, "a817c42b01682dd6c654142b9db08085eb4c19bb36ddfb422bda157dc7fe6263"), looks := true }, kinds := [], alts := [], laidByText := true, laidKinds := [.data, .data, .data], laidTests := true, laidLooks := .later }
def AddrReadsCardSaid : Prop := Claim7.holds Tryd.pinned (.plain (OpenSpec.ofChange addrReadsSpec)) addrReadsCard

/-- THE TIED CARD OF 'louvrelaw02.AddrWrites'. -/
def addrWritesCard : Claim7 := { stood := { row := addrWritesRow, standIns := [], harness := (true, "a817c42b01682dd6c654142b9db08085eb4c19bb36ddfb422bda157dc7fe6263"), looks := true }, kinds := [], alts := [], laidByText := true, laidKinds := [.data, .data, .data], laidTests := true, laidLooks := .later }
def AddrWritesCardSaid : Prop := Claim7.holds Tryd.pinned (.plain (OpenSpec.ofChange addrWritesSpec)) addrWritesCard

/-- THE TIED CARD OF 'louvrelaw02.AddrLess'. -/
def addrLessCard : Claim7 := { stood := { row := addrLessRow, standIns := [], harness := (true, "a817c42b01682dd6c654142b9db08085eb4c19bb36ddfb422bda157dc7fe6263"), looks := true }, kinds := [], alts := [], laidByText := true, laidKinds := [.data, .data, .data], laidTests := true, laidLooks := .later }
def AddrLessCardSaid : Prop := Claim7.holds Tryd.pinned (.plain (OpenSpec.ofChange addrLessSpec)) addrLessCard

/-- THE TIED CARD OF 'louvrelaw02.AddrExamples'. -/
def addrExamplesCard : Claim7 := { stood := { row := addrExamplesRow, standIns := [], harness := (true, "a817c42b01682dd6c654142b9db08085eb4c19bb36ddfb422bda157dc7fe6263"), looks := true }, kinds := [], alts := [], laidByText := true, laidKinds := [.data, .data, .data], laidTests := true, laidLooks := .later }
def AddrExamplesCardSaid : Prop := Claim7.holds Tryd.pinned (.plain (OpenSpec.ofChange addrExamplesSpec)) addrExamplesCard

/-- THE TIED CARD OF 'louvrelaw02.AddrBack'. -/
def addrBackCard : Claim7 := { stood := { row := addrBackRow, standIns := [], harness := (true, "a817c42b01682dd6c654142b9db08085eb4c19bb36ddfb422bda157dc7fe6263"), looks := true }, kinds := [], alts := [], laidByText := true, laidKinds := [.data, .data, .data], laidTests := true, laidLooks := .later }
def AddrBackCardSaid : Prop := Claim7.holds Tryd.pinned (.plain (OpenSpec.ofChange addrBackSpec)) addrBackCard

/-- THE TIED CARD OF 'louvrelaw02.AddrPlaces'. -/
def addrPlacesCard : Claim7 := { stood := { row := addrPlacesRow, standIns := [], harness := (true, "a817c42b01682dd6c654142b9db08085eb4c19bb36ddfb422bda157dc7fe6263"), looks := true }, kinds := [], alts := [], laidByText := true, laidKinds := [.data, .data, .data], laidTests := true, laidLooks := .later }
def AddrPlacesCardSaid : Prop := Claim7.holds Tryd.pinned (.plain (OpenSpec.ofChange addrPlacesSpec)) addrPlacesCard

/-- THE TIED CARD OF 'louvrelaw02.AddrOrder'. -/
def addrOrderCard : Claim7 := { stood := { row := addrOrderRow, standIns := [], harness := (true, "a817c42b01682dd6c654142b9db08085eb4c19bb36ddfb422bda157dc7fe6263"), looks := true }, kinds := [], alts := [], laidByText := true, laidKinds := [.data, .data, .data], laidTests := true, laidLooks := .later }
def AddrOrderCardSaid : Prop := Claim7.holds Tryd.pinned (.plain (OpenSpec.ofChange addrOrderSpec)) addrOrderCard

/-- THE TIED CARD OF 'louvrelaw04.GlyphExamples'. -/
def glyphExamplesCard : Claim7 := { stood := { row := glyphExamplesRow, standIns := [], harness := (true, "a817c42b01682dd6c654142b9db08085eb4c19bb36ddfb422bda157dc7fe6263"), looks := true }, kinds := [], alts := [], laidByText := true, laidKinds := [.data, .pinned], laidTests := true, laidLooks := .later }
def GlyphExamplesCardSaid : Prop := Claim7.holds Tryd.pinned (.plain (OpenSpec.ofChange glyphExamplesSpec)) glyphExamplesCard

/-- THE TIED CARD OF 'louvrelaw18.GroupExamples'. -/
def groupExamplesCard : Claim7 := { stood := { row := groupExamplesRow, standIns := [], harness := (true, "a817c42b01682dd6c654142b9db08085eb4c19bb36ddfb422bda157dc7fe6263"), looks := true }, kinds := [], alts := [], laidByText := true, laidKinds := [.data, .data, .data, .data, .sentinel, .sentinel, .pinned], laidTests := true, laidLooks := .later }
def GroupExamplesCardSaid : Prop := Claim7.holds Tryd.pinned (.plain (OpenSpec.ofChange groupExamplesSpec)) groupExamplesCard

/-- THE SECOND FORM's CARD OF 'louvrelaw01.DecTexts'. -/
def decTextsUptoCard : Claim7 := { stood := { row := decTextsUptoRow, standIns := [], harness := (true, "a817c42b01682dd6c654142b9db08085eb4c19bb36ddfb422bda157dc7fe6263"), looks := true }, kinds := [], alts := [], laidByText := true, laidKinds := [.data, .data, .data, .data, .pinned], laidTests := true, laidLooks := .later }
def DecTextsUptoCardSaid : Prop := Claim7.holds Tryd.pinned (.plain (OpenSpec.upto decTextsSpec)) decTextsUptoCard

/-- THE SECOND FORM's CARD OF 'louvrelaw01.DecExamples'. -/
def decExamplesUptoCard : Claim7 := { stood := { row := decExamplesUptoRow, standIns := [], harness := (true, "a817c42b01682dd6c654142b9db08085eb4c19bb36ddfb422bda157dc7fe6263"), looks := true }, kinds := [], alts := [], laidByText := true, laidKinds := [.data, .data, .data, .data, .pinned], laidTests := true, laidLooks := .later }
def DecExamplesUptoCardSaid : Prop := Claim7.holds Tryd.pinned (.plain (OpenSpec.upto decExamplesSpec)) decExamplesUptoCard

/-- THE SECOND FORM's CARD OF 'louvrelaw01.DecBack'. -/
def decBackUptoCard : Claim7 := { stood := { row := decBackUptoRow, standIns := [], harness := (true, "a817c42b01682dd6c654142b9db08085eb4c19bb36ddfb422bda157dc7fe6263"), looks := true }, kinds := [], alts := [], laidByText := true, laidKinds := [.data, .data, .data, .data, .pinned], laidTests := true, laidLooks := .later }
def DecBackUptoCardSaid : Prop := Claim7.holds Tryd.pinned (.plain (OpenSpec.upto decBackSpec)) decBackUptoCard

/-- THE SECOND FORM's CARD OF 'louvrelaw02.AddrReads'. -/
def addrReadsUptoCard : Claim7 := { stood := { row := addrReadsUptoRow, standIns := [], harness := (true, "a817c42b01682dd6c654142b9db08085eb4c19bb36ddfb422bda157dc7fe6263"), looks := true }, kinds := [], alts := [], laidByText := true, laidKinds := [.data, .data, .data], laidTests := true, laidLooks := .later }
def AddrReadsUptoCardSaid : Prop := Claim7.holds Tryd.pinned (.plain (OpenSpec.upto addrReadsSpec)) addrReadsUptoCard

/-- THE SECOND FORM's CARD OF 'louvrelaw02.AddrWrites'. -/
def addrWritesUptoCard : Claim7 := { stood := { row := addrWritesUptoRow, standIns := [], harness := (true, "a817c42b01682dd6c654142b9db08085eb4c19bb36ddfb422bda157dc7fe6263"), looks := true }, kinds := [], alts := [], laidByText := true, laidKinds := [.data, .data, .data], laidTests := true, laidLooks := .later }
def AddrWritesUptoCardSaid : Prop := Claim7.holds Tryd.pinned (.plain (OpenSpec.upto addrWritesSpec)) addrWritesUptoCard

/-- THE SECOND FORM's CARD OF 'louvrelaw02.AddrLess'. -/
def addrLessUptoCard : Claim7 := { stood := { row := addrLessUptoRow, standIns := [], harness := (true, "a817c42b01682dd6c654142b9db08085eb4c19bb36ddfb422bda157dc7fe6263"), looks := true }, kinds := [], alts := [], laidByText := true, laidKinds := [.data, .data, .data], laidTests := true, laidLooks := .later }
def AddrLessUptoCardSaid : Prop := Claim7.holds Tryd.pinned (.plain (OpenSpec.upto addrLessSpec)) addrLessUptoCard

/-- THE SECOND FORM's CARD OF 'louvrelaw02.AddrExamples'. -/
def addrExamplesUptoCard : Claim7 := { stood := { row := addrExamplesUptoRow, standIns := [], harness := (true, "a817c42b01682dd6c654142b9db08085eb4c19bb36ddfb422bda157dc7fe6263"), looks := true }, kinds := [], alts := [], laidByText := true, laidKinds := [.data, .data, .data], laidTests := true, laidLooks := .later }
def AddrExamplesUptoCardSaid : Prop := Claim7.holds Tryd.pinned (.plain (OpenSpec.upto addrExamplesSpec)) addrExamplesUptoCard

/-- THE SECOND FORM's CARD OF 'louvrelaw02.AddrBack'. -/
def addrBackUptoCard : Claim7 := { stood := { row := addrBackUptoRow, standIns := [], harness := (true, "a817c42b01682dd6c654142b9db08085eb4c19bb36ddfb422bda157dc7fe6263"), looks := true }, kinds := [], alts := [], laidByText := true, laidKinds := [.data, .data, .data], laidTests := true, laidLooks := .later }
def AddrBackUptoCardSaid : Prop := Claim7.holds Tryd.pinned (.plain (OpenSpec.upto addrBackSpec)) addrBackUptoCard

/-- THE SECOND FORM's CARD OF 'louvrelaw02.AddrPlaces'. -/
def addrPlacesUptoCard : Claim7 := { stood := { row := addrPlacesUptoRow, standIns := [], harness := (true, "a817c42b01682dd6c654142b9db08085eb4c19bb36ddfb422bda157dc7fe6263"), looks := true }, kinds := [], alts := [], laidByText := true, laidKinds := [.data, .data, .data], laidTests := true, laidLooks := .later }
def AddrPlacesUptoCardSaid : Prop := Claim7.holds Tryd.pinned (.plain (OpenSpec.upto addrPlacesSpec)) addrPlacesUptoCard

/-- THE SECOND FORM's CARD OF 'louvrelaw02.AddrOrder'. -/
def addrOrderUptoCard : Claim7 := { stood := { row := addrOrderUptoRow, standIns := [], harness := (true, "a817c42b01682dd6c654142b9db08085eb4c19bb36ddfb422bda157dc7fe6263"), looks := true }, kinds := [], alts := [], laidByText := true, laidKinds := [.data, .data, .data], laidTests := true, laidLooks := .later }
def AddrOrderUptoCardSaid : Prop := Claim7.holds Tryd.pinned (.plain (OpenSpec.upto addrOrderSpec)) addrOrderUptoCard

/-- THE SECOND FORM's CARD OF 'louvrelaw04.GlyphExamples'. -/
def glyphExamplesUptoCard : Claim7 := { stood := { row := glyphExamplesUptoRow, standIns := [], harness := (true, "a817c42b01682dd6c654142b9db08085eb4c19bb36ddfb422bda157dc7fe6263"), looks := true }, kinds := [], alts := [], laidByText := true, laidKinds := [.data, .pinned], laidTests := true, laidLooks := .later }
def GlyphExamplesUptoCardSaid : Prop := Claim7.holds Tryd.pinned (.plain (OpenSpec.upto glyphExamplesSpec)) glyphExamplesUptoCard

/-- THE SECOND FORM's CARD OF 'louvrelaw18.GroupExamples'. -/
def groupExamplesUptoCard : Claim7 := { stood := { row := groupExamplesUptoRow, standIns := [], harness := (true, "a817c42b01682dd6c654142b9db08085eb4c19bb36ddfb422bda157dc7fe6263"), looks := true }, kinds := [], alts := [], laidByText := true, laidKinds := [.data, .data, .data, .data, .sentinel, .sentinel, .pinned], laidTests := true, laidLooks := .later }
def GroupExamplesUptoCardSaid : Prop := Claim7.holds Tryd.pinned (.plain (OpenSpec.upto groupExamplesSpec)) groupExamplesUptoCard
end Rows
end Go.Proofs.YtgedckloooilfaaDoor
