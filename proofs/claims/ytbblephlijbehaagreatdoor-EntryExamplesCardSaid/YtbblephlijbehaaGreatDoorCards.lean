/-
  DERIVED. GIVEN WITH THE SEED: THE CARDS: each row of YtbblephlijbehaaGreatDoorRows.lean that lists a variable, with what it lists TIED to the program's text (the seventh form; the later family's looks); each row that meets fmt, with fmt's text TOLD by the authors' own Lean function (tested against real Go, not proved from fmt's source: count such statements apart). THE CARD IS WHAT COUNTS. Prove the row's statement (the work); the ties are given (YtbblephlijbehaaGreatDoorTie.lean); close each card by the builder's one call (the guide's Derived/Test/ToyasCard.lean, 'card_holds'). Laid BY PROGRAM, IN A SANDBOX (cutbox-door.mjs). By AI agents, Wed Nov 11 2026. No macro, syntax, notation, axiom, sorry.
-/
import Derived.Test.YtbblephlijbehaaGreatDoorRows
import GoSem.ClaimSeven
namespace Go.Proofs.YtbblephlijbehaaGreatDoor
namespace Rows

/-- THE TIED CARD OF 'louvrelaw09.ParseBinds'. -/
def parseBindsCard : Claim7 := { stood := { row := parseBindsRow, standIns := [], harness := (true, "207cdae79c22e58f6284d6e3d12eb2503667d88c39ae9fedcfd0b2c0e1e2b4cd"), looks := true }, kinds := [], alts := [], laidByText := true, laidKinds := [.data, .data, .data, .data, .data, .data, .data, .pinned], laidTests := true, laidLooks := .later }
def ParseBindsCardSaid : Prop := Claim7.holds Tryz.pinned (.plain (OpenSpec.ofChange parseBindsSpec)) parseBindsCard

/-- THE TIED CARD OF 'louvrelaw11.EntryExamples'. -/
def entryExamplesCard : Claim7 := { stood := { row := entryExamplesRow, standIns := [], harness := (true, "207cdae79c22e58f6284d6e3d12eb2503667d88c39ae9fedcfd0b2c0e1e2b4cd"), looks := true }, kinds := [], alts := [], laidByText := true, laidKinds := [.data, .data, .data, .data, .data, .data, .data, .pinned], laidTests := true, laidLooks := .later }
def EntryExamplesCardSaid : Prop := Claim7.holds Tryz.pinned (.plain (OpenSpec.ofChange entryExamplesSpec)) entryExamplesCard

/-- THE TIED CARD OF 'louvrelaw29.OpExamples'. -/
def opExamplesCard : Claim7 := { stood := { row := opExamplesRow, standIns := [], harness := (true, "207cdae79c22e58f6284d6e3d12eb2503667d88c39ae9fedcfd0b2c0e1e2b4cd"), looks := true }, kinds := [], alts := [], laidByText := true, laidKinds := [.data, .data, .data, .data, .sentinel, .sentinel, .data, .pinned], laidTests := true, laidLooks := .later }
def OpExamplesCardSaid : Prop := Claim7.holds Tryz.pinned (.plain (OpenSpec.ofChange opExamplesSpec)) opExamplesCard

/-- THE TIED CARD OF 'louvrelaw29.OpPlain'. -/
def opPlainCard : Claim7 := { stood := { row := opPlainRow, standIns := [], harness := (true, "207cdae79c22e58f6284d6e3d12eb2503667d88c39ae9fedcfd0b2c0e1e2b4cd"), looks := true }, kinds := [], alts := [], laidByText := true, laidKinds := [.data, .data, .data, .data, .sentinel, .sentinel, .data, .pinned], laidTests := true, laidLooks := .later }
def OpPlainCardSaid : Prop := Claim7.holds Tryz.pinned (.plain (OpenSpec.ofChange opPlainSpec)) opPlainCard

/-- THE SECOND FORM's CARD OF 'louvrelaw09.ParseBinds'. -/
def parseBindsUptoCard : Claim7 := { stood := { row := parseBindsUptoRow, standIns := [], harness := (true, "207cdae79c22e58f6284d6e3d12eb2503667d88c39ae9fedcfd0b2c0e1e2b4cd"), looks := true }, kinds := [], alts := [], laidByText := true, laidKinds := [.data, .data, .data, .data, .data, .data, .data, .pinned], laidTests := true, laidLooks := .later }
def ParseBindsUptoCardSaid : Prop := Claim7.holds Tryz.pinned (.plain (OpenSpec.upto parseBindsSpec)) parseBindsUptoCard

/-- THE SECOND FORM's CARD OF 'louvrelaw11.EntryExamples'. -/
def entryExamplesUptoCard : Claim7 := { stood := { row := entryExamplesUptoRow, standIns := [], harness := (true, "207cdae79c22e58f6284d6e3d12eb2503667d88c39ae9fedcfd0b2c0e1e2b4cd"), looks := true }, kinds := [], alts := [], laidByText := true, laidKinds := [.data, .data, .data, .data, .data, .data, .data, .pinned], laidTests := true, laidLooks := .later }
def EntryExamplesUptoCardSaid : Prop := Claim7.holds Tryz.pinned (.plain (OpenSpec.upto entryExamplesSpec)) entryExamplesUptoCard

/-- THE SECOND FORM's CARD OF 'louvrelaw29.OpExamples'. -/
def opExamplesUptoCard : Claim7 := { stood := { row := opExamplesUptoRow, standIns := [], harness := (true, "207cdae79c22e58f6284d6e3d12eb2503667d88c39ae9fedcfd0b2c0e1e2b4cd"), looks := true }, kinds := [], alts := [], laidByText := true, laidKinds := [.data, .data, .data, .data, .sentinel, .sentinel, .data, .pinned], laidTests := true, laidLooks := .later }
def OpExamplesUptoCardSaid : Prop := Claim7.holds Tryz.pinned (.plain (OpenSpec.upto opExamplesSpec)) opExamplesUptoCard

/-- THE SECOND FORM's CARD OF 'louvrelaw29.OpPlain'. -/
def opPlainUptoCard : Claim7 := { stood := { row := opPlainUptoRow, standIns := [], harness := (true, "207cdae79c22e58f6284d6e3d12eb2503667d88c39ae9fedcfd0b2c0e1e2b4cd"), looks := true }, kinds := [], alts := [], laidByText := true, laidKinds := [.data, .data, .data, .data, .sentinel, .sentinel, .data, .pinned], laidTests := true, laidLooks := .later }
def OpPlainUptoCardSaid : Prop := Claim7.holds Tryz.pinned (.plain (OpenSpec.upto opPlainSpec)) opPlainUptoCard
end Rows
end Go.Proofs.YtbblephlijbehaaGreatDoor
