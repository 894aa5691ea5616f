/-
  DERIVED. GIVEN WITH THE SEED: THE CARDS: each row of YthgnhdfppmoooaaGreatDoorRows.lean that lists a variable, with what it lists TIED to the program's text (the seventh form; the later family's looks); each row that meets fmt, with fmt's text TOLD by the authors' own Lean function (tested against real Go, not proved from fmt's source: count such statements apart). THE CARD IS WHAT COUNTS. Prove the row's statement (the work); the ties are given (YthgnhdfppmoooaaGreatDoorTie.lean); close each card by the builder's one call (the guide's Derived/Test/ToyasCard.lean, 'card_holds'). Laid BY PROGRAM, IN A SANDBOX (cutbox-door.mjs). By AI agents, Wed Nov 11 2026. No macro, syntax, notation, axiom, sorry.
-/
import Derived.Test.YthgnhdfppmoooaaGreatDoorRows
import GoSem.ClaimSeven
namespace Go.Proofs.YthgnhdfppmoooaaGreatDoor
namespace Rows

/-- THE TIED CARD OF 'louvrelaw14.FtextPieces'. -/
def ftextPiecesCard : Claim7 := { stood := { row := ftextPiecesRow, standIns := [], harness := (true, "b0da766cad95af2c7676d5f9767815b49833987296a09893aefd2874d4688b2c"), looks := false }, kinds := [], alts := [], laidByText := true, laidKinds := [.data, .data, .data, .data, .pinned], laidTests := true, laidLooks := .later }
def FtextPiecesCardSaid : Prop := Claim7.holds Tryz.pinned (.plain (OpenSpec.ofChange ftextPiecesSpec)) ftextPiecesCard

/-- THE TIED CARD OF 'louvrelaw14.FtextFinds'. -/
def ftextFindsCard : Claim7 := { stood := { row := ftextFindsRow, standIns := [], harness := (true, "b0da766cad95af2c7676d5f9767815b49833987296a09893aefd2874d4688b2c"), looks := false }, kinds := [], alts := [], laidByText := true, laidKinds := [.data, .data, .data, .data, .pinned], laidTests := true, laidLooks := .later }
def FtextFindsCardSaid : Prop := Claim7.holds Tryz.pinned (.plain (OpenSpec.ofChange ftextFindsSpec)) ftextFindsCard

/-- THE TIED CARD OF 'louvrelaw14.FtextJoins'. -/
def ftextJoinsCard : Claim7 := { stood := { row := ftextJoinsRow, standIns := [], harness := (true, "b0da766cad95af2c7676d5f9767815b49833987296a09893aefd2874d4688b2c"), looks := false }, kinds := [], alts := [], laidByText := true, laidKinds := [.data, .data, .data, .data, .pinned], laidTests := true, laidLooks := .later }
def FtextJoinsCardSaid : Prop := Claim7.holds Tryz.pinned (.plain (OpenSpec.ofChange ftextJoinsSpec)) ftextJoinsCard

/-- THE SECOND FORM's CARD OF 'louvrelaw14.FtextPieces'. -/
def ftextPiecesUptoCard : Claim7 := { stood := { row := ftextPiecesUptoRow, standIns := [], harness := (true, "b0da766cad95af2c7676d5f9767815b49833987296a09893aefd2874d4688b2c"), looks := false }, kinds := [], alts := [], laidByText := true, laidKinds := [.data, .data, .data, .data, .pinned], laidTests := true, laidLooks := .later }
def FtextPiecesUptoCardSaid : Prop := Claim7.holds Tryz.pinned (.plain (OpenSpec.upto ftextPiecesSpec)) ftextPiecesUptoCard

/-- THE SECOND FORM's CARD OF 'louvrelaw14.FtextFinds'. -/
def ftextFindsUptoCard : Claim7 := { stood := { row := ftextFindsUptoRow, standIns := [], harness := (true, "b0da766cad95af2c7676d5f9767815b49833987296a09893aefd2874d4688b2c"), looks := false }, kinds := [], alts := [], laidByText := true, laidKinds := [.data, .data, .data, .data, .pinned], laidTests := true, laidLooks := .later }
def FtextFindsUptoCardSaid : Prop := Claim7.holds Tryz.pinned (.plain (OpenSpec.upto ftextFindsSpec)) ftextFindsUptoCard

/-- THE SECOND FORM's CARD OF 'louvrelaw14.FtextJoins'. -/
def ftextJoinsUptoCard : Claim7 := { stood := { row := ftextJoinsUptoRow, standIns := [], harness := (true, "b0da766cad95af2c7676d5f9767815b49833987296a09893aefd2874d4688b2c"), looks := false }, kinds := [], alts := [], laidByText := true, laidKinds := [.data, .data, .data, .data, .pinned], laidTests := true, laidLooks := .later }
def FtextJoinsUptoCardSaid : Prop := Claim7.holds Tryz.pinned (.plain (OpenSpec.upto ftextJoinsSpec)) ftextJoinsUptoCard
end Rows
end Go.Proofs.YthgnhdfppmoooaaGreatDoor
