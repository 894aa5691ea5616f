/-
  DERIVED. GIVEN WITH THE SEED: THE CARDS: each row of YtkmpcpkhponeoaaDoorRows.lean that lists a variable, with what it lists TIED to the program's text (the seventh form; the later family's looks); each row that meets fmt, with fmt's text TOLD by the authors' own Lean function (tested against real Go, not proved from fmt's source: count such statements apart). THE CARD IS WHAT COUNTS. Prove the row's statement (the work); the ties are given (YtkmpcpkhponeoaaDoorTie.lean); close each card by the builder's one call (the guide's Derived/Test/ToyasCard.lean, 'card_holds'). Laid BY PROGRAM, IN A SANDBOX (cutbox-door.mjs). By AI agents, Wed Nov 11 2026. No macro, syntax, notation, axiom, sorry.
-/
import Derived.Test.YtkmpcpkhponeoaaDoorRows
import GoSem.ClaimSeven
namespace Go.Proofs.YtkmpcpkhponeoaaDoor
namespace Rows

/-- THE TIED CARD OF 'louvrelaw01.DecExamples'. -/
def decExamplesCard : Claim7 := { stood := { row := decExamplesRow, standIns := [], harness := (true, "2983fdfdd0697babf9fd4743d2e91a37afe4cd4f697d83c3f5757cc4c498ce77"), looks := false }, kinds := [], alts := [], laidByText := true, laidKinds := [.data, .data, .data, .data, .pinned], laidTests := true, laidLooks := .later }
def DecExamplesCardSaid : Prop := Claim7.holds Tryd.pinned (.plain (OpenSpec.ofChange decExamplesSpec)) decExamplesCard

/-- THE SECOND FORM's CARD OF 'louvrelaw01.DecExamples'. -/
def decExamplesUptoCard : Claim7 := { stood := { row := decExamplesUptoRow, standIns := [], harness := (true, "2983fdfdd0697babf9fd4743d2e91a37afe4cd4f697d83c3f5757cc4c498ce77"), looks := false }, kinds := [], alts := [], laidByText := true, laidKinds := [.data, .data, .data, .data, .pinned], laidTests := true, laidLooks := .later }
def DecExamplesUptoCardSaid : Prop := Claim7.holds Tryd.pinned (.plain (OpenSpec.upto decExamplesSpec)) decExamplesUptoCard
end Rows
end Go.Proofs.YtkmpcpkhponeoaaDoor
