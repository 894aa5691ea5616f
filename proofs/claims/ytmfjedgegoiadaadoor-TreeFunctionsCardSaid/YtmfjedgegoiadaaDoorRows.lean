/-
  NARROWER THAN 'FOR EVERY INPUT', by the rows' own cells (each row's printed sentence says how): TreeFunctions: laid · TreeNames: laid.
  DERIVED. THE GIVEN ROWS OF THIS SEAT. 2 by the template 'for every input the law returns true; each argument reads behind the call as it read before'; 0 by the template 'total and deterministic' (their statements: YtmfjedgegoiadaaDoorTotals.lean).
  GIVEN WITH THE SEED: the statements are not yours to turn. If you find one false, say at which input.
  Laid BY PROGRAM, IN A SANDBOX (cutbox-rows.mjs): the forced cells as the released guide's own fill.sh prints them over the translation ba4371e4de5af2db… (all of the seat's roots in one cut). By AI agents, Wed Nov 11 2026. No macro, syntax, notation, axiom, sorry.
-/
import Derived.Test.YtmfjedgegoiadaaDoorChecked
import GoSem.Claim
import GoSem.ClaimJoined
import GoSem.ClaimMapViews
import Derived.JoinedTies
import Derived.KernelRfl
namespace Go.Proofs.YtmfjedgegoiadaaDoor
/- THE CELL 'sum', in the pinned program and in every row, IS THE sha256 OF THE DUMP (.gsa) THAT YtmfjedgegoiadaaDoorProg.lean LOADS. Nothing in Lean hashes anything: it is a label: what it is worth is what the hold of that sum in a sandbox is worth. -/
noncomputable def Tryd.pinned : Pinned := { name := "ytmfjedgegoiadaadoor", sum := "ba4371e4de5af2dba7198fdc50aa8a43d25a243ae8f8db32578a0da0c1cd8a00", checked := Tryd.checked }
namespace Rows
def none {H : Type} : Left H := { results := [], args := [] }

/- WHAT THE LISTED PACKAGE-LEVEL VARIABLES READ AS WHEN THE CALL BEGINS. Each datum BY PROGRAM (the guide's laid-datum.mjs) off the statement by which the dump's own 'gosem.cut.vars' lays the variable. In a bare row this is a premise. The card (YtmfjedgegoiadaaDoorCards.lean) ties it to the program's text. -/
def laid_louvre_tree_names {H : Type} : DataW H := .agg [.lit (.string []), .lit (.string [65, 66, 83]), .lit (.string [83, 73, 71, 78]), .lit (.string [73, 78, 84]), .lit (.string [84, 82, 85, 78, 67]), .lit (.string [82, 79, 85, 78, 68]), .lit (.string [77, 79, 68]), .lit (.string [80, 79, 87, 69, 82]), .lit (.string [83, 81, 82, 84]), .lit (.string [83, 85, 77]), .lit (.string [80, 82, 79, 68, 85, 67, 84]), .lit (.string [67, 79, 85, 78, 84]), .lit (.string [67, 79, 85, 78, 84, 65]), .lit (.string [67, 79, 85, 78, 84, 66, 76, 65, 78, 75]), .lit (.string [65, 86, 69, 82, 65, 71, 69]), .lit (.string [77, 73, 78]), .lit (.string [77, 65, 88]), .lit (.string [77, 69, 68, 73, 65, 78]), .lit (.string [76, 65, 82, 71, 69]), .lit (.string [83, 77, 65, 76, 76]), .lit (.string [73, 70]), .lit (.string [65, 78, 68]), .lit (.string [79, 82]), .lit (.string [88, 79, 82]), .lit (.string [78, 79, 84]), .lit (.string [73, 70, 69, 82, 82, 79, 82]), .lit (.string [73, 83, 69, 82, 82, 79, 82]), .lit (.string [73, 83, 66, 76, 65, 78, 75]), .lit (.string [73, 83, 78, 85, 77, 66, 69, 82]), .lit (.string [73, 83, 84, 69, 88, 84]), .lit (.string [67, 72, 79, 79, 83, 69]), .lit (.string [76, 69, 78]), .lit (.string [76, 69, 70, 84]), .lit (.string [82, 73, 71, 72, 84]), .lit (.string [77, 73, 68]), .lit (.string [85, 80, 80, 69, 82]), .lit (.string [76, 79, 87, 69, 82]), .lit (.string [84, 82, 73, 77]), .lit (.string [67, 79, 78, 67, 65, 84]), .lit (.string [82, 69, 80, 84]), .lit (.string [69, 88, 65, 67, 84]), .lit (.string [70, 73, 78, 68]), .lit (.string [86, 65, 76, 85, 69]), .lit (.string [73, 78, 68, 69, 88]), .lit (.string [77, 65, 84, 67, 72]), .lit (.string [67, 79, 85, 78, 84, 73, 70]), .lit (.string [68, 83, 85, 77]), .lit (.string [68, 67, 79, 85, 78, 84]), .lit (.string [68, 65, 86, 71]), .lit (.string [68, 77, 73, 78]), .lit (.string [68, 77, 65, 88])]

/-- 'louvrelaw08.TreeFunctions': WHATEVER THE INPUT: true; the input reads as it did. -/
def treeFunctionsSpec : ChangeSpec := { name := "treeFunctions", fn := fun _ => fun
  | [d1, d2, d3] => { results := [.lit (.bool true)], args := [d1, d2, d3] }
  | _ => none }
def treeFunctionsRow : OpenClaim := { program := "ytmfjedgegoiadaadoor", sum := "ba4371e4de5af2dba7198fdc50aa8a43d25a243ae8f8db32578a0da0c1cd8a00", func := "louvre/louvrelaw08.TreeFunctions", spec := "treeFunctions", unfollowed := true, recurses := true, named := ["louvre/tree.names"], apart := false, laid := [("louvre/tree.names", laid_louvre_tree_names)] }
def TreeFunctionsSaid : Prop := treeFunctionsRow.holds Tryd.pinned (OpenSpec.ofChange treeFunctionsSpec)

/-- ITS FALSE NEIGHBOUR: 'it returns false'. Refute it at one input. -/
def treeFunctionsWrong : ChangeSpec := { name := "treeFunctions", fn := fun _ => fun
  | [d1, d2, d3] => { results := [.lit (.bool false)], args := [d1, d2, d3] }
  | _ => none }
def TreeFunctionsWrongFalsely : Prop := treeFunctionsRow.holds Tryd.pinned (OpenSpec.ofChange treeFunctionsWrong)

/-- 'louvrelaw08.TreeNames': WHATEVER THE INPUT: true; the input reads as it did. -/
def treeNamesSpec : ChangeSpec := { name := "treeNames", fn := fun _ => fun
  | [d] => { results := [.lit (.bool true)], args := [d] }
  | _ => none }
def treeNamesRow : OpenClaim := { program := "ytmfjedgegoiadaadoor", sum := "ba4371e4de5af2dba7198fdc50aa8a43d25a243ae8f8db32578a0da0c1cd8a00", func := "louvre/louvrelaw08.TreeNames", spec := "treeNames", unfollowed := true, recurses := true, named := ["louvre/tree.names"], apart := false, laid := [("louvre/tree.names", laid_louvre_tree_names)] }
def TreeNamesSaid : Prop := treeNamesRow.holds Tryd.pinned (OpenSpec.ofChange treeNamesSpec)

/-- ITS FALSE NEIGHBOUR: 'it returns false'. Refute it at one input. -/
def treeNamesWrong : ChangeSpec := { name := "treeNames", fn := fun _ => fun
  | [d] => { results := [.lit (.bool false)], args := [d] }
  | _ => none }
def TreeNamesWrongFalsely : Prop := treeNamesRow.holds Tryd.pinned (OpenSpec.ofChange treeNamesWrong)

/- THE SECOND FORM. 'bulk': how many values and letters a reading holds, each counted each time it is reached (what is shared counts as often as it is met; a slice's spare places count too). A statement '..UptoSaid' is the law's where the arguments, and the package variables that the reading takes, are together of bulk at most 1048576: NARROWER than '..Said'. Prove '..Said' where nothing that the law and all that it calls make is longer than what came in: it says more and counts as full. Else prove '..UptoSaid'. A law counts once. -/
mutual
def uptoBulk {H : Type} : DataW H → Nat
  | .lit (.string bytes) => bytes.length + 1
  | .lit _ => 1
  | .nil => 1
  | .ptr d => uptoBulk d + 1
  | .slice elems spare => uptoBulkAll elems + uptoBulkAll spare + 1
  | .agg parts => uptoBulkAll parts + 1
  | .iface _ d => uptoBulk d + 1
  | .map entries => uptoBulkEntries entries + 1
  | .held _ => 1
def uptoBulkAll {H : Type} : List (DataW H) → Nat
  | [] => 0
  | d :: r => uptoBulk d + uptoBulkAll r
def uptoBulkEntries {H : Type} : List (Lit × DataW H) → Nat
  | [] => 0
  | x :: r => uptoBulkEntry x + uptoBulkEntries r
def uptoBulkEntry {H : Type} : Lit × DataW H → Nat
  | (.string bytes, d) => bytes.length + uptoBulk d + 1
  | (_, d) => uptoBulk d + 1
 end
def uptoSmall : (H : Type) → List (DataW H) → Bool := fun _ ds => decide (uptoBulkAll ds ≤ 1048576)
def OpenSpec.upto (s : _root_.Go.ChangeSpec) : _root_.Go.OpenSpec := { _root_.Go.OpenSpec.ofChange s with cond := some uptoSmall }

/-- 'louvrelaw08.TreeFunctions', WHERE WHAT IT READS IS OF BULK AT MOST 1048576: true; the input reads as it did. -/
def treeFunctionsUptoRow : OpenClaim := { program := "ytmfjedgegoiadaadoor", sum := "ba4371e4de5af2dba7198fdc50aa8a43d25a243ae8f8db32578a0da0c1cd8a00", func := "louvre/louvrelaw08.TreeFunctions", spec := "treeFunctions", unfollowed := true, recurses := true, named := ["louvre/tree.names"], apart := false, laid := [("louvre/tree.names", laid_louvre_tree_names)], narrowed := true }
def TreeFunctionsUptoSaid : Prop := treeFunctionsUptoRow.holds Tryd.pinned (OpenSpec.upto treeFunctionsSpec)

/-- 'louvrelaw08.TreeNames', WHERE WHAT IT READS IS OF BULK AT MOST 1048576: true; the input reads as it did. -/
def treeNamesUptoRow : OpenClaim := { program := "ytmfjedgegoiadaadoor", sum := "ba4371e4de5af2dba7198fdc50aa8a43d25a243ae8f8db32578a0da0c1cd8a00", func := "louvre/louvrelaw08.TreeNames", spec := "treeNames", unfollowed := true, recurses := true, named := ["louvre/tree.names"], apart := false, laid := [("louvre/tree.names", laid_louvre_tree_names)], narrowed := true }
def TreeNamesUptoSaid : Prop := treeNamesUptoRow.holds Tryd.pinned (OpenSpec.upto treeNamesSpec)

end Rows
end Go.Proofs.YtmfjedgegoiadaaDoor
