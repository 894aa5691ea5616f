/-
  NARROWER THAN 'FOR EVERY INPUT', by the rows' own cells (each row's printed sentence says how): TreeMatches: laid · TreeJoins: laid · TreeEquals: laid · TreeParts: laid · TreeGrows: laid.
  DERIVED. THE GIVEN ROWS OF THIS SEAT. 5 by the template 'for every input the law returns true; each argument reads behind the call as it read before'; 0 by the template 'total and deterministic' (their statements: YtkigjoaoggafeaaDoorTotals.lean).
  GIVEN WITH THE SEED: the statements are not yours to turn. If you find one false, say at which input.
  Laid BY PROGRAM, IN A SANDBOX (cutbox-rows.mjs): the forced cells as the released guide's own fill.sh prints them over the translation fe6e9c57b9584f74… (all of the seat's roots in one cut). By AI agents, Wed Nov 11 2026. No macro, syntax, notation, axiom, sorry.
-/
import Derived.Test.YtkigjoaoggafeaaDoorChecked
import GoSem.Claim
import GoSem.ClaimJoined
import GoSem.ClaimMapViews
import Derived.JoinedTies
import Derived.KernelRfl
namespace Go.Proofs.YtkigjoaoggafeaaDoor
/- THE CELL 'sum', in the pinned program and in every row, IS THE sha256 OF THE DUMP (.gsa) THAT YtkigjoaoggafeaaDoorProg.lean LOADS. Nothing in Lean hashes anything: it is a label: what it is worth is what the hold of that sum in a sandbox is worth. -/
noncomputable def Tryd.pinned : Pinned := { name := "ytkigjoaoggafeaadoor", sum := "fe6e9c57b9584f74e3c457bb188a56e624e8db1241d62b5d2990b6ff51663f4e", checked := Tryd.checked }
namespace Rows
def none {H : Type} : Left H := { results := [], args := [] }

/- WHAT THE LISTED PACKAGE-LEVEL VARIABLES READ AS WHEN THE CALL BEGINS. Each datum BY PROGRAM (the guide's laid-datum.mjs) off the statement by which the dump's own 'gosem.cut.vars' lays the variable. In a bare row this is a premise. The card (YtkigjoaoggafeaaDoorCards.lean) ties it to the program's text. -/
def laid_louvre_tree_names {H : Type} : DataW H := .agg [.lit (.string []), .lit (.string [65, 66, 83]), .lit (.string [83, 73, 71, 78]), .lit (.string [73, 78, 84]), .lit (.string [84, 82, 85, 78, 67]), .lit (.string [82, 79, 85, 78, 68]), .lit (.string [77, 79, 68]), .lit (.string [80, 79, 87, 69, 82]), .lit (.string [83, 81, 82, 84]), .lit (.string [83, 85, 77]), .lit (.string [80, 82, 79, 68, 85, 67, 84]), .lit (.string [67, 79, 85, 78, 84]), .lit (.string [67, 79, 85, 78, 84, 65]), .lit (.string [67, 79, 85, 78, 84, 66, 76, 65, 78, 75]), .lit (.string [65, 86, 69, 82, 65, 71, 69]), .lit (.string [77, 73, 78]), .lit (.string [77, 65, 88]), .lit (.string [77, 69, 68, 73, 65, 78]), .lit (.string [76, 65, 82, 71, 69]), .lit (.string [83, 77, 65, 76, 76]), .lit (.string [73, 70]), .lit (.string [65, 78, 68]), .lit (.string [79, 82]), .lit (.string [88, 79, 82]), .lit (.string [78, 79, 84]), .lit (.string [73, 70, 69, 82, 82, 79, 82]), .lit (.string [73, 83, 69, 82, 82, 79, 82]), .lit (.string [73, 83, 66, 76, 65, 78, 75]), .lit (.string [73, 83, 78, 85, 77, 66, 69, 82]), .lit (.string [73, 83, 84, 69, 88, 84]), .lit (.string [67, 72, 79, 79, 83, 69]), .lit (.string [76, 69, 78]), .lit (.string [76, 69, 70, 84]), .lit (.string [82, 73, 71, 72, 84]), .lit (.string [77, 73, 68]), .lit (.string [85, 80, 80, 69, 82]), .lit (.string [76, 79, 87, 69, 82]), .lit (.string [84, 82, 73, 77]), .lit (.string [67, 79, 78, 67, 65, 84]), .lit (.string [82, 69, 80, 84]), .lit (.string [69, 88, 65, 67, 84]), .lit (.string [70, 73, 78, 68]), .lit (.string [86, 65, 76, 85, 69]), .lit (.string [73, 78, 68, 69, 88]), .lit (.string [77, 65, 84, 67, 72]), .lit (.string [67, 79, 85, 78, 84, 73, 70]), .lit (.string [68, 83, 85, 77]), .lit (.string [68, 67, 79, 85, 78, 84]), .lit (.string [68, 65, 86, 71]), .lit (.string [68, 77, 73, 78]), .lit (.string [68, 77, 65, 88])]

/-- 'louvrelaw08.TreeMatches': WHATEVER THE INPUT: true; the input reads as it did. -/
def treeMatchesSpec : ChangeSpec := { name := "treeMatches", fn := fun _ => fun
  | [d1, d2] => { results := [.lit (.bool true)], args := [d1, d2] }
  | _ => none }
def treeMatchesRow : OpenClaim := { program := "ytkigjoaoggafeaadoor", sum := "fe6e9c57b9584f74e3c457bb188a56e624e8db1241d62b5d2990b6ff51663f4e", func := "louvre/louvrelaw08.TreeMatches", spec := "treeMatches", unfollowed := true, recurses := true, named := ["louvre/tree.names"], apart := false, laid := [("louvre/tree.names", laid_louvre_tree_names)] }
def TreeMatchesSaid : Prop := treeMatchesRow.holds Tryd.pinned (OpenSpec.ofChange treeMatchesSpec)

/-- ITS FALSE NEIGHBOUR: 'it returns false'. Refute it at one input. -/
def treeMatchesWrong : ChangeSpec := { name := "treeMatches", fn := fun _ => fun
  | [d1, d2] => { results := [.lit (.bool false)], args := [d1, d2] }
  | _ => none }
def TreeMatchesWrongFalsely : Prop := treeMatchesRow.holds Tryd.pinned (OpenSpec.ofChange treeMatchesWrong)

/-- 'louvrelaw08.TreeJoins': WHATEVER THE INPUT: true; the input reads as it did. -/
def treeJoinsSpec : ChangeSpec := { name := "treeJoins", fn := fun _ => fun
  | [d1, d2] => { results := [.lit (.bool true)], args := [d1, d2] }
  | _ => none }
def treeJoinsRow : OpenClaim := { program := "ytkigjoaoggafeaadoor", sum := "fe6e9c57b9584f74e3c457bb188a56e624e8db1241d62b5d2990b6ff51663f4e", func := "louvre/louvrelaw08.TreeJoins", spec := "treeJoins", unfollowed := true, recurses := true, named := ["louvre/tree.names"], apart := false, laid := [("louvre/tree.names", laid_louvre_tree_names)] }
def TreeJoinsSaid : Prop := treeJoinsRow.holds Tryd.pinned (OpenSpec.ofChange treeJoinsSpec)

/-- ITS FALSE NEIGHBOUR: 'it returns false'. Refute it at one input. -/
def treeJoinsWrong : ChangeSpec := { name := "treeJoins", fn := fun _ => fun
  | [d1, d2] => { results := [.lit (.bool false)], args := [d1, d2] }
  | _ => none }
def TreeJoinsWrongFalsely : Prop := treeJoinsRow.holds Tryd.pinned (OpenSpec.ofChange treeJoinsWrong)

/-- 'louvrelaw08.TreeEquals': WHATEVER THE INPUT: true; the input reads as it did. -/
def treeEqualsSpec : ChangeSpec := { name := "treeEquals", fn := fun _ => fun
  | [d1, d2] => { results := [.lit (.bool true)], args := [d1, d2] }
  | _ => none }
def treeEqualsRow : OpenClaim := { program := "ytkigjoaoggafeaadoor", sum := "fe6e9c57b9584f74e3c457bb188a56e624e8db1241d62b5d2990b6ff51663f4e", func := "louvre/louvrelaw08.TreeEquals", spec := "treeEquals", unfollowed := true, recurses := true, named := ["louvre/tree.names"], apart := false, laid := [("louvre/tree.names", laid_louvre_tree_names)] }
def TreeEqualsSaid : Prop := treeEqualsRow.holds Tryd.pinned (OpenSpec.ofChange treeEqualsSpec)

/-- ITS FALSE NEIGHBOUR: 'it returns false'. Refute it at one input. -/
def treeEqualsWrong : ChangeSpec := { name := "treeEquals", fn := fun _ => fun
  | [d1, d2] => { results := [.lit (.bool false)], args := [d1, d2] }
  | _ => none }
def TreeEqualsWrongFalsely : Prop := treeEqualsRow.holds Tryd.pinned (OpenSpec.ofChange treeEqualsWrong)

/-- 'louvrelaw08.TreeParts': WHATEVER THE INPUT: true; the input reads as it did. -/
def treePartsSpec : ChangeSpec := { name := "treeParts", fn := fun _ => fun
  | [d] => { results := [.lit (.bool true)], args := [d] }
  | _ => none }
def treePartsRow : OpenClaim := { program := "ytkigjoaoggafeaadoor", sum := "fe6e9c57b9584f74e3c457bb188a56e624e8db1241d62b5d2990b6ff51663f4e", func := "louvre/louvrelaw08.TreeParts", spec := "treeParts", unfollowed := true, recurses := true, named := ["louvre/tree.names"], apart := false, laid := [("louvre/tree.names", laid_louvre_tree_names)] }
def TreePartsSaid : Prop := treePartsRow.holds Tryd.pinned (OpenSpec.ofChange treePartsSpec)

/-- ITS FALSE NEIGHBOUR: 'it returns false'. Refute it at one input. -/
def treePartsWrong : ChangeSpec := { name := "treeParts", fn := fun _ => fun
  | [d] => { results := [.lit (.bool false)], args := [d] }
  | _ => none }
def TreePartsWrongFalsely : Prop := treePartsRow.holds Tryd.pinned (OpenSpec.ofChange treePartsWrong)

/-- 'louvrelaw08.TreeGrows': WHATEVER THE INPUT: true; the input reads as it did. -/
def treeGrowsSpec : ChangeSpec := { name := "treeGrows", fn := fun _ => fun
  | [d1, d2] => { results := [.lit (.bool true)], args := [d1, d2] }
  | _ => none }
def treeGrowsRow : OpenClaim := { program := "ytkigjoaoggafeaadoor", sum := "fe6e9c57b9584f74e3c457bb188a56e624e8db1241d62b5d2990b6ff51663f4e", func := "louvre/louvrelaw08.TreeGrows", spec := "treeGrows", unfollowed := true, recurses := true, named := ["louvre/tree.names"], apart := false, laid := [("louvre/tree.names", laid_louvre_tree_names)] }
def TreeGrowsSaid : Prop := treeGrowsRow.holds Tryd.pinned (OpenSpec.ofChange treeGrowsSpec)

/-- ITS FALSE NEIGHBOUR: 'it returns false'. Refute it at one input. -/
def treeGrowsWrong : ChangeSpec := { name := "treeGrows", fn := fun _ => fun
  | [d1, d2] => { results := [.lit (.bool false)], args := [d1, d2] }
  | _ => none }
def TreeGrowsWrongFalsely : Prop := treeGrowsRow.holds Tryd.pinned (OpenSpec.ofChange treeGrowsWrong)

/- THE SECOND FORM. 'bulk': how many values and letters a reading holds, each counted each time it is reached (what is shared counts as often as it is met; a slice's spare places count too). A statement '..UptoSaid' is the law's where the arguments, and the package variables that the reading takes, are together of bulk at most 1048576: NARROWER than '..Said'. Prove '..Said' where nothing that the law and all that it calls make is longer than what came in: it says more and counts as full. Else prove '..UptoSaid'. A law counts once. -/
mutual
def uptoBulk {H : Type} : DataW H → Nat
  | .lit (.string bytes) => bytes.length + 1
  | .lit _ => 1
  | .nil => 1
  | .ptr d => uptoBulk d + 1
  | .slice elems spare => uptoBulkAll elems + uptoBulkAll spare + 1
  | .agg parts => uptoBulkAll parts + 1
  | .iface _ d => uptoBulk d + 1
  | .map entries => uptoBulkEntries entries + 1
  | .held _ => 1
def uptoBulkAll {H : Type} : List (DataW H) → Nat
  | [] => 0
  | d :: r => uptoBulk d + uptoBulkAll r
def uptoBulkEntries {H : Type} : List (Lit × DataW H) → Nat
  | [] => 0
  | x :: r => uptoBulkEntry x + uptoBulkEntries r
def uptoBulkEntry {H : Type} : Lit × DataW H → Nat
  | (.string bytes, d) => bytes.length + uptoBulk d + 1
  | (_, d) => uptoBulk d + 1
 end
def uptoSmall : (H : Type) → List (DataW H) → Bool := fun _ ds => decide (uptoBulkAll ds ≤ 1048576)
def OpenSpec.upto (s : _root_.Go.ChangeSpec) : _root_.Go.OpenSpec := { _root_.Go.OpenSpec.ofChange s with cond := some uptoSmall }

/-- 'louvrelaw08.TreeMatches', WHERE WHAT IT READS IS OF BULK AT MOST 1048576: true; the input reads as it did. -/
def treeMatchesUptoRow : OpenClaim := { program := "ytkigjoaoggafeaadoor", sum := "fe6e9c57b9584f74e3c457bb188a56e624e8db1241d62b5d2990b6ff51663f4e", func := "louvre/louvrelaw08.TreeMatches", spec := "treeMatches", unfollowed := true, recurses := true, named := ["louvre/tree.names"], apart := false, laid := [("louvre/tree.names", laid_louvre_tree_names)], narrowed := true }
def TreeMatchesUptoSaid : Prop := treeMatchesUptoRow.holds Tryd.pinned (OpenSpec.upto treeMatchesSpec)

/-- 'louvrelaw08.TreeJoins', WHERE WHAT IT READS IS OF BULK AT MOST 1048576: true; the input reads as it did. -/
def treeJoinsUptoRow : OpenClaim := { program := "ytkigjoaoggafeaadoor", sum := "fe6e9c57b9584f74e3c457bb188a56e624e8db1241d62b5d2990b6ff51663f4e", func := "louvre/louvrelaw08.TreeJoins", spec := "treeJoins", unfollowed := true, recurses := true, named := ["louvre/tree.names"], apart := false, laid := [("louvre/tree.names", laid_louvre_tree_names)], narrowed := true }
def TreeJoinsUptoSaid : Prop := treeJoinsUptoRow.holds Tryd.pinned (OpenSpec.upto treeJoinsSpec)

/-- 'louvrelaw08.TreeEquals', WHERE WHAT IT READS IS OF BULK AT MOST 1048576: true; the input reads as it did. -/
def treeEqualsUptoRow : OpenClaim := { program := "ytkigjoaoggafeaadoor", sum := "fe6e9c57b9584f74e3c457bb188a56e624e8db1241d62b5d2990b6ff51663f4e", func := "louvre/louvrelaw08.TreeEquals", spec := "treeEquals", unfollowed := true, recurses := true, named := ["louvre/tree.names"], apart := false, laid := [("louvre/tree.names", laid_louvre_tree_names)], narrowed := true }
def TreeEqualsUptoSaid : Prop := treeEqualsUptoRow.holds Tryd.pinned (OpenSpec.upto treeEqualsSpec)

/-- 'louvrelaw08.TreeParts', WHERE WHAT IT READS IS OF BULK AT MOST 1048576: true; the input reads as it did. -/
def treePartsUptoRow : OpenClaim := { program := "ytkigjoaoggafeaadoor", sum := "fe6e9c57b9584f74e3c457bb188a56e624e8db1241d62b5d2990b6ff51663f4e", func := "louvre/louvrelaw08.TreeParts", spec := "treeParts", unfollowed := true, recurses := true, named := ["louvre/tree.names"], apart := false, laid := [("louvre/tree.names", laid_louvre_tree_names)], narrowed := true }
def TreePartsUptoSaid : Prop := treePartsUptoRow.holds Tryd.pinned (OpenSpec.upto treePartsSpec)

/-- 'louvrelaw08.TreeGrows', WHERE WHAT IT READS IS OF BULK AT MOST 1048576: true; the input reads as it did. -/
def treeGrowsUptoRow : OpenClaim := { program := "ytkigjoaoggafeaadoor", sum := "fe6e9c57b9584f74e3c457bb188a56e624e8db1241d62b5d2990b6ff51663f4e", func := "louvre/louvrelaw08.TreeGrows", spec := "treeGrows", unfollowed := true, recurses := true, named := ["louvre/tree.names"], apart := false, laid := [("louvre/tree.names", laid_louvre_tree_names)], narrowed := true }
def TreeGrowsUptoSaid : Prop := treeGrowsUptoRow.holds Tryd.pinned (OpenSpec.upto treeGrowsSpec)

end Rows
end Go.Proofs.YtkigjoaoggafeaaDoor
