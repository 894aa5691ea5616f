/-
  DERIVED. GIVEN WITH THE SEED: THE CARDS: each row of YteoepgdfhllffaaGreatDoorRows.lean that lists a variable, with what it lists TIED to the program's text (the seventh form; the later family's looks); each row that meets fmt, with fmt's text TOLD by the authors' own Lean function (tested against real Go, not proved from fmt's source: count such statements apart). THE CARD IS WHAT COUNTS. Prove the row's statement (the work); the ties are given (YteoepgdfhllffaaGreatDoorTie.lean); close each card by the builder's one call (the guide's Derived/Test/ToyasCard.lean, 'card_holds'). Laid BY PROGRAM, IN A SANDBOX (cutbox-door.mjs). By AI agents, Wed Nov 11 2026. No macro, syntax, notation, axiom, sorry.
-/
import Derived.Test.YteoepgdfhllffaaGreatDoorRows
import GoSem.ClaimSeven
namespace Go.Proofs.YteoepgdfhllffaaGreatDoor
namespace Rows

/-- THE TIED CARD OF 'louvrelaw05.ValMakes'. -/
def valMakesCard : Claim7 := { stood := { row := valMakesRow, standIns := [], harness := (true, "a805b936b9dbf17fb0bf3d281bde1ac49bb1dcaeebcaa7e3ef60f244fb365737"), looks := false }, kinds := [], alts := [], laidByText := true, laidKinds := [.data, .data, .data, .data, .data, .pinned], laidTests := true, laidLooks := .later }
def ValMakesCardSaid : Prop := Claim7.holds Tryz.pinned (.plain (OpenSpec.ofChange valMakesSpec)) valMakesCard

/-- THE TIED CARD OF 'louvrelaw05.ValConverts'. -/
def valConvertsCard : Claim7 := { stood := { row := valConvertsRow, standIns := [], harness := (true, "a805b936b9dbf17fb0bf3d281bde1ac49bb1dcaeebcaa7e3ef60f244fb365737"), looks := false }, kinds := [], alts := [], laidByText := true, laidKinds := [.data, .data, .data, .data, .data, .pinned], laidTests := true, laidLooks := .later }
def ValConvertsCardSaid : Prop := Claim7.holds Tryz.pinned (.plain (OpenSpec.ofChange valConvertsSpec)) valConvertsCard

/-- THE SECOND FORM's CARD OF 'louvrelaw05.ValMakes'. -/
def valMakesUptoCard : Claim7 := { stood := { row := valMakesUptoRow, standIns := [], harness := (true, "a805b936b9dbf17fb0bf3d281bde1ac49bb1dcaeebcaa7e3ef60f244fb365737"), looks := false }, kinds := [], alts := [], laidByText := true, laidKinds := [.data, .data, .data, .data, .data, .pinned], laidTests := true, laidLooks := .later }
def ValMakesUptoCardSaid : Prop := Claim7.holds Tryz.pinned (.plain (OpenSpec.upto valMakesSpec)) valMakesUptoCard

/-- THE SECOND FORM's CARD OF 'louvrelaw05.ValConverts'. -/
def valConvertsUptoCard : Claim7 := { stood := { row := valConvertsUptoRow, standIns := [], harness := (true, "a805b936b9dbf17fb0bf3d281bde1ac49bb1dcaeebcaa7e3ef60f244fb365737"), looks := false }, kinds := [], alts := [], laidByText := true, laidKinds := [.data, .data, .data, .data, .data, .pinned], laidTests := true, laidLooks := .later }
def ValConvertsUptoCardSaid : Prop := Claim7.holds Tryz.pinned (.plain (OpenSpec.upto valConvertsSpec)) valConvertsUptoCard
end Rows
end Go.Proofs.YteoepgdfhllffaaGreatDoor
