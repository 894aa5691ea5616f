/-
  No cell of these rows narrows 'for every input' (looked for: loops, veiled, ifaces, maps, wideKeys, modest, calm, conditions, laid).
  DERIVED. THE GIVEN ROWS OF THIS SEAT. 7 by the template 'for every input the law returns true; each argument reads behind the call as it read before'; 0 by the template 'total and deterministic' (their statements: YtmnbplfgdgjpdaaTotals.lean).
  GIVEN WITH THE SEED: the statements are not yours to turn. If you find one false, say at which input.
  Laid BY PROGRAM, IN A SANDBOX (cutbox-rows.mjs): the forced cells as the released guide's own fill.sh prints them over the translation 9872a171030f4b26… (all of the seat's roots in one cut). By AI agents, Wed Nov 11 2026. No macro, syntax, notation, axiom, sorry.
-/
import Derived.Test.YtmnbplfgdgjpdaaChecked
import GoSem.Claim
import GoSem.ClaimJoined
import GoSem.ClaimMapViews
import Derived.JoinedTies
import Derived.KernelRfl
namespace Go.Proofs.Ytmnbplfgdgjpdaa
/- THE CELL 'sum', in the pinned program and in every row, IS THE sha256 OF THE DUMP (.gsa) THAT YtmnbplfgdgjpdaaProg.lean LOADS. Nothing in Lean hashes anything: it is a label: what it is worth is what the hold of that sum in a sandbox is worth. -/
noncomputable def Try.pinned : Pinned := { name := "ytmnbplfgdgjpdaa", sum := "9872a171030f4b26743ad2b6dc4b3ac23bfe9252e02f1e977bee85b8340b0404", checked := Try.checked }
namespace Rows
def none {H : Type} : Left H := { results := [], args := [] }

/-- 'louvrelaw18.GroupSets': WHATEVER THE INPUT: true; the input reads as it did. -/
def groupSetsSpec : ChangeSpec := { name := "groupSets", fn := fun _ => fun
  | [d1, d2, d3] => { results := [.lit (.bool true)], args := [d1, d2, d3] }
  | _ => none }
def groupSetsRow : OpenClaim := { program := "ytmnbplfgdgjpdaa", sum := "9872a171030f4b26743ad2b6dc4b3ac23bfe9252e02f1e977bee85b8340b0404", func := "louvre/louvrelaw18.GroupSets", spec := "groupSets", unfollowed := true, recurses := true, apart := false }
def GroupSetsSaid : Prop := groupSetsRow.holds Try.pinned (OpenSpec.ofChange groupSetsSpec)

/-- ITS FALSE NEIGHBOUR: 'it returns false'. Refute it at one input. -/
def groupSetsWrong : ChangeSpec := { name := "groupSets", fn := fun _ => fun
  | [d1, d2, d3] => { results := [.lit (.bool false)], args := [d1, d2, d3] }
  | _ => none }
def GroupSetsWrongFalsely : Prop := groupSetsRow.holds Try.pinned (OpenSpec.ofChange groupSetsWrong)

/-- 'louvrelaw18.GroupMeets': WHATEVER THE INPUT: true; the input reads as it did. -/
def groupMeetsSpec : ChangeSpec := { name := "groupMeets", fn := fun _ => fun
  | [d1, d2, d3] => { results := [.lit (.bool true)], args := [d1, d2, d3] }
  | _ => none }
def groupMeetsRow : OpenClaim := { program := "ytmnbplfgdgjpdaa", sum := "9872a171030f4b26743ad2b6dc4b3ac23bfe9252e02f1e977bee85b8340b0404", func := "louvre/louvrelaw18.GroupMeets", spec := "groupMeets", apart := false }
def GroupMeetsSaid : Prop := groupMeetsRow.holds Try.pinned (OpenSpec.ofChange groupMeetsSpec)

/-- ITS FALSE NEIGHBOUR: 'it returns false'. Refute it at one input. -/
def groupMeetsWrong : ChangeSpec := { name := "groupMeets", fn := fun _ => fun
  | [d1, d2, d3] => { results := [.lit (.bool false)], args := [d1, d2, d3] }
  | _ => none }
def GroupMeetsWrongFalsely : Prop := groupMeetsRow.holds Try.pinned (OpenSpec.ofChange groupMeetsWrong)

/-- 'louvrelaw18.GroupMembers': WHATEVER THE INPUT: true; the input reads as it did. -/
def groupMembersSpec : ChangeSpec := { name := "groupMembers", fn := fun _ => fun
  | [d] => { results := [.lit (.bool true)], args := [d] }
  | _ => none }
def groupMembersRow : OpenClaim := { program := "ytmnbplfgdgjpdaa", sum := "9872a171030f4b26743ad2b6dc4b3ac23bfe9252e02f1e977bee85b8340b0404", func := "louvre/louvrelaw18.GroupMembers", spec := "groupMembers", unfollowed := true, recurses := true, apart := false }
def GroupMembersSaid : Prop := groupMembersRow.holds Try.pinned (OpenSpec.ofChange groupMembersSpec)

/-- ITS FALSE NEIGHBOUR: 'it returns false'. Refute it at one input. -/
def groupMembersWrong : ChangeSpec := { name := "groupMembers", fn := fun _ => fun
  | [d] => { results := [.lit (.bool false)], args := [d] }
  | _ => none }
def GroupMembersWrongFalsely : Prop := groupMembersRow.holds Try.pinned (OpenSpec.ofChange groupMembersWrong)

/-- 'louvrelaw28.RosterDoes': WHATEVER THE INPUT: true; the input reads as it did. -/
def rosterDoesSpec : ChangeSpec := { name := "rosterDoes", fn := fun _ => fun
  | [d1, d2] => { results := [.lit (.bool true)], args := [d1, d2] }
  | _ => none }
def rosterDoesRow : OpenClaim := { program := "ytmnbplfgdgjpdaa", sum := "9872a171030f4b26743ad2b6dc4b3ac23bfe9252e02f1e977bee85b8340b0404", func := "louvre/louvrelaw28.RosterDoes", spec := "rosterDoes", apart := false }
def RosterDoesSaid : Prop := rosterDoesRow.holds Try.pinned (OpenSpec.ofChange rosterDoesSpec)

/-- ITS FALSE NEIGHBOUR: 'it returns false'. Refute it at one input. -/
def rosterDoesWrong : ChangeSpec := { name := "rosterDoes", fn := fun _ => fun
  | [d1, d2] => { results := [.lit (.bool false)], args := [d1, d2] }
  | _ => none }
def RosterDoesWrongFalsely : Prop := rosterDoesRow.holds Try.pinned (OpenSpec.ofChange rosterDoesWrong)

/-- 'louvrelaw28.RosterExamples': WHATEVER THE INPUT: true; the input reads as it did. -/
def rosterExamplesSpec : ChangeSpec := { name := "rosterExamples", fn := fun _ => fun
  | [] => { results := [.lit (.bool true)], args := [] }
  | _ => none }
def rosterExamplesRow : OpenClaim := { program := "ytmnbplfgdgjpdaa", sum := "9872a171030f4b26743ad2b6dc4b3ac23bfe9252e02f1e977bee85b8340b0404", func := "louvre/louvrelaw28.RosterExamples", spec := "rosterExamples", apart := false }
def RosterExamplesSaid : Prop := rosterExamplesRow.holds Try.pinned (OpenSpec.ofChange rosterExamplesSpec)

/-- ITS FALSE NEIGHBOUR: 'it returns false'. Refute it at one input. -/
def rosterExamplesWrong : ChangeSpec := { name := "rosterExamples", fn := fun _ => fun
  | [] => { results := [.lit (.bool false)], args := [] }
  | _ => none }
def RosterExamplesWrongFalsely : Prop := rosterExamplesRow.holds Try.pinned (OpenSpec.ofChange rosterExamplesWrong)

/-- 'louvrelaw28.RosterKeeps': WHATEVER THE INPUT: true; the input reads as it did. -/
def rosterKeepsSpec : ChangeSpec := { name := "rosterKeeps", fn := fun _ => fun
  | [d1, d2] => { results := [.lit (.bool true)], args := [d1, d2] }
  | _ => none }
def rosterKeepsRow : OpenClaim := { program := "ytmnbplfgdgjpdaa", sum := "9872a171030f4b26743ad2b6dc4b3ac23bfe9252e02f1e977bee85b8340b0404", func := "louvre/louvrelaw28.RosterKeeps", spec := "rosterKeeps", apart := false }
def RosterKeepsSaid : Prop := rosterKeepsRow.holds Try.pinned (OpenSpec.ofChange rosterKeepsSpec)

/-- ITS FALSE NEIGHBOUR: 'it returns false'. Refute it at one input. -/
def rosterKeepsWrong : ChangeSpec := { name := "rosterKeeps", fn := fun _ => fun
  | [d1, d2] => { results := [.lit (.bool false)], args := [d1, d2] }
  | _ => none }
def RosterKeepsWrongFalsely : Prop := rosterKeepsRow.holds Try.pinned (OpenSpec.ofChange rosterKeepsWrong)

/-- 'louvrelaw28.RosterBack': WHATEVER THE INPUT: true; the input reads as it did. -/
def rosterBackSpec : ChangeSpec := { name := "rosterBack", fn := fun _ => fun
  | [d1, d2, d3] => { results := [.lit (.bool true)], args := [d1, d2, d3] }
  | _ => none }
def rosterBackRow : OpenClaim := { program := "ytmnbplfgdgjpdaa", sum := "9872a171030f4b26743ad2b6dc4b3ac23bfe9252e02f1e977bee85b8340b0404", func := "louvre/louvrelaw28.RosterBack", spec := "rosterBack", apart := false }
def RosterBackSaid : Prop := rosterBackRow.holds Try.pinned (OpenSpec.ofChange rosterBackSpec)

/-- ITS FALSE NEIGHBOUR: 'it returns false'. Refute it at one input. -/
def rosterBackWrong : ChangeSpec := { name := "rosterBack", fn := fun _ => fun
  | [d1, d2, d3] => { results := [.lit (.bool false)], args := [d1, d2, d3] }
  | _ => none }
def RosterBackWrongFalsely : Prop := rosterBackRow.holds Try.pinned (OpenSpec.ofChange rosterBackWrong)

/- THE SECOND FORM. 'bulk': how many values and letters a reading holds, each counted each time it is reached (what is shared counts as often as it is met; a slice's spare places count too). A statement '..UptoSaid' is the law's where the arguments, and the package variables that the reading takes, are together of bulk at most 1048576: NARROWER than '..Said'. Prove '..Said' where nothing that the law and all that it calls make is longer than what came in: it says more and counts as full. Else prove '..UptoSaid'. A law counts once. -/
mutual
def uptoBulk {H : Type} : DataW H → Nat
  | .lit (.string bytes) => bytes.length + 1
  | .lit _ => 1
  | .nil => 1
  | .ptr d => uptoBulk d + 1
  | .slice elems spare => uptoBulkAll elems + uptoBulkAll spare + 1
  | .agg parts => uptoBulkAll parts + 1
  | .iface _ d => uptoBulk d + 1
  | .map entries => uptoBulkEntries entries + 1
  | .held _ => 1
def uptoBulkAll {H : Type} : List (DataW H) → Nat
  | [] => 0
  | d :: r => uptoBulk d + uptoBulkAll r
def uptoBulkEntries {H : Type} : List (Lit × DataW H) → Nat
  | [] => 0
  | x :: r => uptoBulkEntry x + uptoBulkEntries r
def uptoBulkEntry {H : Type} : Lit × DataW H → Nat
  | (.string bytes, d) => bytes.length + uptoBulk d + 1
  | (_, d) => uptoBulk d + 1
 end
def uptoSmall : (H : Type) → List (DataW H) → Bool := fun _ ds => decide (uptoBulkAll ds ≤ 1048576)
def OpenSpec.upto (s : _root_.Go.ChangeSpec) : _root_.Go.OpenSpec := { _root_.Go.OpenSpec.ofChange s with cond := some uptoSmall }

/-- 'louvrelaw18.GroupSets', WHERE WHAT IT READS IS OF BULK AT MOST 1048576: true; the input reads as it did. -/
def groupSetsUptoRow : OpenClaim := { program := "ytmnbplfgdgjpdaa", sum := "9872a171030f4b26743ad2b6dc4b3ac23bfe9252e02f1e977bee85b8340b0404", func := "louvre/louvrelaw18.GroupSets", spec := "groupSets", unfollowed := true, recurses := true, apart := false, narrowed := true }
def GroupSetsUptoSaid : Prop := groupSetsUptoRow.holds Try.pinned (OpenSpec.upto groupSetsSpec)

/-- 'louvrelaw18.GroupMeets', WHERE WHAT IT READS IS OF BULK AT MOST 1048576: true; the input reads as it did. -/
def groupMeetsUptoRow : OpenClaim := { program := "ytmnbplfgdgjpdaa", sum := "9872a171030f4b26743ad2b6dc4b3ac23bfe9252e02f1e977bee85b8340b0404", func := "louvre/louvrelaw18.GroupMeets", spec := "groupMeets", apart := false, narrowed := true }
def GroupMeetsUptoSaid : Prop := groupMeetsUptoRow.holds Try.pinned (OpenSpec.upto groupMeetsSpec)

/-- 'louvrelaw18.GroupMembers', WHERE WHAT IT READS IS OF BULK AT MOST 1048576: true; the input reads as it did. -/
def groupMembersUptoRow : OpenClaim := { program := "ytmnbplfgdgjpdaa", sum := "9872a171030f4b26743ad2b6dc4b3ac23bfe9252e02f1e977bee85b8340b0404", func := "louvre/louvrelaw18.GroupMembers", spec := "groupMembers", unfollowed := true, recurses := true, apart := false, narrowed := true }
def GroupMembersUptoSaid : Prop := groupMembersUptoRow.holds Try.pinned (OpenSpec.upto groupMembersSpec)

/-- 'louvrelaw28.RosterDoes', WHERE WHAT IT READS IS OF BULK AT MOST 1048576: true; the input reads as it did. -/
def rosterDoesUptoRow : OpenClaim := { program := "ytmnbplfgdgjpdaa", sum := "9872a171030f4b26743ad2b6dc4b3ac23bfe9252e02f1e977bee85b8340b0404", func := "louvre/louvrelaw28.RosterDoes", spec := "rosterDoes", apart := false, narrowed := true }
def RosterDoesUptoSaid : Prop := rosterDoesUptoRow.holds Try.pinned (OpenSpec.upto rosterDoesSpec)

/-- 'louvrelaw28.RosterExamples', WHERE WHAT IT READS IS OF BULK AT MOST 1048576: true; the input reads as it did. -/
def rosterExamplesUptoRow : OpenClaim := { program := "ytmnbplfgdgjpdaa", sum := "9872a171030f4b26743ad2b6dc4b3ac23bfe9252e02f1e977bee85b8340b0404", func := "louvre/louvrelaw28.RosterExamples", spec := "rosterExamples", apart := false, narrowed := true }
def RosterExamplesUptoSaid : Prop := rosterExamplesUptoRow.holds Try.pinned (OpenSpec.upto rosterExamplesSpec)

/-- 'louvrelaw28.RosterKeeps', WHERE WHAT IT READS IS OF BULK AT MOST 1048576: true; the input reads as it did. -/
def rosterKeepsUptoRow : OpenClaim := { program := "ytmnbplfgdgjpdaa", sum := "9872a171030f4b26743ad2b6dc4b3ac23bfe9252e02f1e977bee85b8340b0404", func := "louvre/louvrelaw28.RosterKeeps", spec := "rosterKeeps", apart := false, narrowed := true }
def RosterKeepsUptoSaid : Prop := rosterKeepsUptoRow.holds Try.pinned (OpenSpec.upto rosterKeepsSpec)

/-- 'louvrelaw28.RosterBack', WHERE WHAT IT READS IS OF BULK AT MOST 1048576: true; the input reads as it did. -/
def rosterBackUptoRow : OpenClaim := { program := "ytmnbplfgdgjpdaa", sum := "9872a171030f4b26743ad2b6dc4b3ac23bfe9252e02f1e977bee85b8340b0404", func := "louvre/louvrelaw28.RosterBack", spec := "rosterBack", apart := false, narrowed := true }
def RosterBackUptoSaid : Prop := rosterBackUptoRow.holds Try.pinned (OpenSpec.upto rosterBackSpec)

end Rows
end Go.Proofs.Ytmnbplfgdgjpdaa
