/-
  DERIVED. GIVEN WITH THE SEED: THE CARDS: each row of YtmfjedgegoiadaaDoorRows.lean that lists a variable, with what it lists TIED to the program's text (the seventh form; the later family's looks); each row that meets fmt, with fmt's text TOLD by the authors' own Lean function (tested against real Go, not proved from fmt's source: count such statements apart). THE CARD IS WHAT COUNTS. Prove the row's statement (the work); the ties are given (YtmfjedgegoiadaaDoorTie.lean); close each card by the builder's one call (the guide's Derived/Test/ToyasCard.lean, 'card_holds'). Laid BY PROGRAM, IN A SANDBOX (cutbox-door.mjs). By AI agents, Wed Nov 11 2026. No macro, syntax, notation, axiom, sorry.
-/
import Derived.Test.YtmfjedgegoiadaaDoorRows
import GoSem.ClaimSeven
namespace Go.Proofs.YtmfjedgegoiadaaDoor
namespace Rows

/-- THE TIED CARD OF 'louvrelaw08.TreeFunctions'. -/
def treeFunctionsCard : Claim7 := { stood := { row := treeFunctionsRow, standIns := [], harness := (true, "55483f4f07f66865819d76b046d302e76846170c2a848c113014d5a35385e794"), looks := false }, kinds := [], alts := [], laidByText := true, laidKinds := [.data], laidTests := true, laidLooks := .later }
def TreeFunctionsCardSaid : Prop := Claim7.holds Tryd.pinned (.plain (OpenSpec.ofChange treeFunctionsSpec)) treeFunctionsCard

/-- THE TIED CARD OF 'louvrelaw08.TreeNames'. -/
def treeNamesCard : Claim7 := { stood := { row := treeNamesRow, standIns := [], harness := (true, "55483f4f07f66865819d76b046d302e76846170c2a848c113014d5a35385e794"), looks := false }, kinds := [], alts := [], laidByText := true, laidKinds := [.data], laidTests := true, laidLooks := .later }
def TreeNamesCardSaid : Prop := Claim7.holds Tryd.pinned (.plain (OpenSpec.ofChange treeNamesSpec)) treeNamesCard

/-- THE SECOND FORM's CARD OF 'louvrelaw08.TreeFunctions'. -/
def treeFunctionsUptoCard : Claim7 := { stood := { row := treeFunctionsUptoRow, standIns := [], harness := (true, "55483f4f07f66865819d76b046d302e76846170c2a848c113014d5a35385e794"), looks := false }, kinds := [], alts := [], laidByText := true, laidKinds := [.data], laidTests := true, laidLooks := .later }
def TreeFunctionsUptoCardSaid : Prop := Claim7.holds Tryd.pinned (.plain (OpenSpec.upto treeFunctionsSpec)) treeFunctionsUptoCard

/-- THE SECOND FORM's CARD OF 'louvrelaw08.TreeNames'. -/
def treeNamesUptoCard : Claim7 := { stood := { row := treeNamesUptoRow, standIns := [], harness := (true, "55483f4f07f66865819d76b046d302e76846170c2a848c113014d5a35385e794"), looks := false }, kinds := [], alts := [], laidByText := true, laidKinds := [.data], laidTests := true, laidLooks := .later }
def TreeNamesUptoCardSaid : Prop := Claim7.holds Tryd.pinned (.plain (OpenSpec.upto treeNamesSpec)) treeNamesUptoCard
end Rows
end Go.Proofs.YtmfjedgegoiadaaDoor
