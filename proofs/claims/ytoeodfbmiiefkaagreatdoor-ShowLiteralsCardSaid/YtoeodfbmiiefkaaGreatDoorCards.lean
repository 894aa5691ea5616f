/-
  DERIVED. GIVEN WITH THE SEED: THE CARDS: each row of YtoeodfbmiiefkaaGreatDoorRows.lean that lists a variable, with what it lists TIED to the program's text (the seventh form; the later family's looks); each row that meets fmt, with fmt's text TOLD by the authors' own Lean function (tested against real Go, not proved from fmt's source: count such statements apart). THE CARD IS WHAT COUNTS. Prove the row's statement (the work); the ties are given (YtoeodfbmiiefkaaGreatDoorTie.lean); close each card by the builder's one call (the guide's Derived/Test/ToyasCard.lean, 'card_holds'). Laid BY PROGRAM, IN A SANDBOX (cutbox-door.mjs). By AI agents, Wed Nov 11 2026. No macro, syntax, notation, axiom, sorry.
-/
import Derived.Test.YtoeodfbmiiefkaaGreatDoorRows
import GoSem.ClaimSeven
namespace Go.Proofs.YtoeodfbmiiefkaaGreatDoor
namespace Rows

/-- THE TIED CARD OF 'louvrelaw10.ShowLiterals'. -/
def showLiteralsCard : Claim7 := { stood := { row := showLiteralsRow, standIns := [], harness := (true, "a34db0fc0bd259688b5d7df8f6dec3d64915bab63602559dad1a0050e1fbbe14"), looks := true }, kinds := [], alts := [], laidByText := true, laidKinds := [.data, .data, .data, .data, .data, .data, .data, .pinned], laidTests := true, laidLooks := .later }
def ShowLiteralsCardSaid : Prop := Claim7.holds Tryz.pinned (.plain (OpenSpec.ofChange showLiteralsSpec)) showLiteralsCard

/-- THE SECOND FORM's CARD OF 'louvrelaw10.ShowLiterals'. -/
def showLiteralsUptoCard : Claim7 := { stood := { row := showLiteralsUptoRow, standIns := [], harness := (true, "a34db0fc0bd259688b5d7df8f6dec3d64915bab63602559dad1a0050e1fbbe14"), looks := true }, kinds := [], alts := [], laidByText := true, laidKinds := [.data, .data, .data, .data, .data, .data, .data, .pinned], laidTests := true, laidLooks := .later }
def ShowLiteralsUptoCardSaid : Prop := Claim7.holds Tryz.pinned (.plain (OpenSpec.upto showLiteralsSpec)) showLiteralsUptoCard
end Rows
end Go.Proofs.YtoeodfbmiiefkaaGreatDoor
