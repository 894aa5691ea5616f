/-
  No cell of these rows narrows 'for every input' (looked for: loops, veiled, ifaces, maps, wideKeys, modest, calm, conditions, laid).
  DERIVED. THE GIVEN ROWS OF THIS SEAT. 3 by the template 'for every input the law returns true; each argument reads behind the call as it read before'; 0 by the template 'total and deterministic' (their statements: YthdhclcdngdkdaaTotals.lean).
  GIVEN WITH THE SEED: the statements are not yours to turn. If you find one false, say at which input.
  Laid BY PROGRAM, IN A SANDBOX (cutbox-rows.mjs): the forced cells as the released guide's own fill.sh prints them over the translation a02c6ac5bb3f0c49… (all of the seat's roots in one cut). By AI agents, Wed Nov 11 2026. No macro, syntax, notation, axiom, sorry.
-/
import Derived.Test.YthdhclcdngdkdaaChecked
import GoSem.Claim
import GoSem.ClaimJoined
import GoSem.ClaimMapViews
import Derived.JoinedTies
import Derived.KernelRfl
namespace Go.Proofs.Ythdhclcdngdkdaa
/- THE CELL 'sum', in the pinned program and in every row, IS THE sha256 OF THE DUMP (.gsa) THAT YthdhclcdngdkdaaProg.lean LOADS. Nothing in Lean hashes anything: it is a label: what it is worth is what the hold of that sum in a sandbox is worth. -/
noncomputable def Try.pinned : Pinned := { name := "ythdhclcdngdkdaa", sum := "a02c6ac5bb3f0c49662ce5d2fc18d77dc0d2c7cfacb87bde4a81eb647555bfa4", checked := Try.checked }
namespace Rows
def none {H : Type} : Left H := { results := [], args := [] }

/-- 'louvrelaw20.RegionExamples': WHATEVER THE INPUT: true; the input reads as it did. -/
def regionExamplesSpec : ChangeSpec := { name := "regionExamples", fn := fun _ => fun
  | [] => { results := [.lit (.bool true)], args := [] }
  | _ => none }
def regionExamplesRow : OpenClaim := { program := "ythdhclcdngdkdaa", sum := "a02c6ac5bb3f0c49662ce5d2fc18d77dc0d2c7cfacb87bde4a81eb647555bfa4", func := "louvre/louvrelaw20.RegionExamples", spec := "regionExamples", unfollowed := true, recurses := true, apart := false }
def RegionExamplesSaid : Prop := regionExamplesRow.holds Try.pinned (OpenSpec.ofChange regionExamplesSpec)

/-- ITS FALSE NEIGHBOUR: 'it returns false'. Refute it at one input. -/
def regionExamplesWrong : ChangeSpec := { name := "regionExamples", fn := fun _ => fun
  | [] => { results := [.lit (.bool false)], args := [] }
  | _ => none }
def RegionExamplesWrongFalsely : Prop := regionExamplesRow.holds Try.pinned (OpenSpec.ofChange regionExamplesWrong)

/-- 'louvrelaw24.SccNames': WHATEVER THE INPUT: true; the input reads as it did. -/
def sccNamesSpec : ChangeSpec := { name := "sccNames", fn := fun _ => fun
  | [] => { results := [.lit (.bool true)], args := [] }
  | _ => none }
def sccNamesRow : OpenClaim := { program := "ythdhclcdngdkdaa", sum := "a02c6ac5bb3f0c49662ce5d2fc18d77dc0d2c7cfacb87bde4a81eb647555bfa4", func := "louvre/louvrelaw24.SccNames", spec := "sccNames", unfollowed := true, recurses := true, apart := false }
def SccNamesSaid : Prop := sccNamesRow.holds Try.pinned (OpenSpec.ofChange sccNamesSpec)

/-- ITS FALSE NEIGHBOUR: 'it returns false'. Refute it at one input. -/
def sccNamesWrong : ChangeSpec := { name := "sccNames", fn := fun _ => fun
  | [] => { results := [.lit (.bool false)], args := [] }
  | _ => none }
def SccNamesWrongFalsely : Prop := sccNamesRow.holds Try.pinned (OpenSpec.ofChange sccNamesWrong)

/-- 'louvrelaw25.OrderNames': WHATEVER THE INPUT: true; the input reads as it did. -/
def orderNamesSpec : ChangeSpec := { name := "orderNames", fn := fun _ => fun
  | [] => { results := [.lit (.bool true)], args := [] }
  | _ => none }
def orderNamesRow : OpenClaim := { program := "ythdhclcdngdkdaa", sum := "a02c6ac5bb3f0c49662ce5d2fc18d77dc0d2c7cfacb87bde4a81eb647555bfa4", func := "louvre/louvrelaw25.OrderNames", spec := "orderNames", unfollowed := true, recurses := true, apart := false }
def OrderNamesSaid : Prop := orderNamesRow.holds Try.pinned (OpenSpec.ofChange orderNamesSpec)

/-- ITS FALSE NEIGHBOUR: 'it returns false'. Refute it at one input. -/
def orderNamesWrong : ChangeSpec := { name := "orderNames", fn := fun _ => fun
  | [] => { results := [.lit (.bool false)], args := [] }
  | _ => none }
def OrderNamesWrongFalsely : Prop := orderNamesRow.holds Try.pinned (OpenSpec.ofChange orderNamesWrong)

/- THE SECOND FORM. 'bulk': how many values and letters a reading holds, each counted each time it is reached (what is shared counts as often as it is met; a slice's spare places count too). A statement '..UptoSaid' is the law's where the arguments, and the package variables that the reading takes, are together of bulk at most 1048576: NARROWER than '..Said'. Prove '..Said' where nothing that the law and all that it calls make is longer than what came in: it says more and counts as full. Else prove '..UptoSaid'. A law counts once. -/
mutual
def uptoBulk {H : Type} : DataW H → Nat
  | .lit (.string bytes) => bytes.length + 1
  | .lit _ => 1
  | .nil => 1
  | .ptr d => uptoBulk d + 1
  | .slice elems spare => uptoBulkAll elems + uptoBulkAll spare + 1
  | .agg parts => uptoBulkAll parts + 1
  | .iface _ d => uptoBulk d + 1
  | .map entries => uptoBulkEntries entries + 1
  | .held _ => 1
def uptoBulkAll {H : Type} : List (DataW H) → Nat
  | [] => 0
  | d :: r => uptoBulk d + uptoBulkAll r
def uptoBulkEntries {H : Type} : List (Lit × DataW H) → Nat
  | [] => 0
  | x :: r => uptoBulkEntry x + uptoBulkEntries r
def uptoBulkEntry {H : Type} : Lit × DataW H → Nat
  | (.string bytes, d) => bytes.length + uptoBulk d + 1
  | (_, d) => uptoBulk d + 1
 end
def uptoSmall : (H : Type) → List (DataW H) → Bool := fun _ ds => decide (uptoBulkAll ds ≤ 1048576)
def OpenSpec.upto (s : _root_.Go.ChangeSpec) : _root_.Go.OpenSpec := { _root_.Go.OpenSpec.ofChange s with cond := some uptoSmall }

/-- 'louvrelaw20.RegionExamples', WHERE WHAT IT READS IS OF BULK AT MOST 1048576: true; the input reads as it did. -/
def regionExamplesUptoRow : OpenClaim := { program := "ythdhclcdngdkdaa", sum := "a02c6ac5bb3f0c49662ce5d2fc18d77dc0d2c7cfacb87bde4a81eb647555bfa4", func := "louvre/louvrelaw20.RegionExamples", spec := "regionExamples", unfollowed := true, recurses := true, apart := false, narrowed := true }
def RegionExamplesUptoSaid : Prop := regionExamplesUptoRow.holds Try.pinned (OpenSpec.upto regionExamplesSpec)

/-- 'louvrelaw24.SccNames', WHERE WHAT IT READS IS OF BULK AT MOST 1048576: true; the input reads as it did. -/
def sccNamesUptoRow : OpenClaim := { program := "ythdhclcdngdkdaa", sum := "a02c6ac5bb3f0c49662ce5d2fc18d77dc0d2c7cfacb87bde4a81eb647555bfa4", func := "louvre/louvrelaw24.SccNames", spec := "sccNames", unfollowed := true, recurses := true, apart := false, narrowed := true }
def SccNamesUptoSaid : Prop := sccNamesUptoRow.holds Try.pinned (OpenSpec.upto sccNamesSpec)

/-- 'louvrelaw25.OrderNames', WHERE WHAT IT READS IS OF BULK AT MOST 1048576: true; the input reads as it did. -/
def orderNamesUptoRow : OpenClaim := { program := "ythdhclcdngdkdaa", sum := "a02c6ac5bb3f0c49662ce5d2fc18d77dc0d2c7cfacb87bde4a81eb647555bfa4", func := "louvre/louvrelaw25.OrderNames", spec := "orderNames", unfollowed := true, recurses := true, apart := false, narrowed := true }
def OrderNamesUptoSaid : Prop := orderNamesUptoRow.holds Try.pinned (OpenSpec.upto orderNamesSpec)

end Rows
end Go.Proofs.Ythdhclcdngdkdaa
