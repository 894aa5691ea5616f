/-
  No cell of these rows narrows 'for every input' (looked for: loops, veiled, ifaces, maps, wideKeys, modest, calm, conditions, laid).
  DERIVED. THE GIVEN ROWS OF THIS SEAT. 3 by the template 'for every input the law returns true; each argument reads behind the call as it read before'; 0 by the template 'total and deterministic' (their statements: YtlbkomlfgecnaaaTotals.lean).
  GIVEN WITH THE SEED: the statements are not yours to turn. If you find one false, say at which input.
  Laid BY PROGRAM, IN A SANDBOX (cutbox-rows.mjs): the forced cells as the released guide's own fill.sh prints them over the translation 6f227bf6feb0225a… (all of the seat's roots in one cut). By AI agents, Wed Nov 11 2026. No macro, syntax, notation, axiom, sorry.
-/
import Derived.Test.YtlbkomlfgecnaaaChecked
import GoSem.Claim
import GoSem.ClaimJoined
import GoSem.ClaimMapViews
import Derived.JoinedTies
import Derived.KernelRfl
namespace Go.Proofs.Ytlbkomlfgecnaaa
/- THE CELL 'sum', in the pinned program and in every row, IS THE sha256 OF THE DUMP (.gsa) THAT YtlbkomlfgecnaaaProg.lean LOADS. Nothing in Lean hashes anything: it is a label: what it is worth is what the hold of that sum in a sandbox is worth. -/
noncomputable def Try.pinned : Pinned := { name := "ytlbkomlfgecnaaa", sum := "6f227bf6feb0225a7da3f9b6dbdf3eb5c658ea68d36fd39bc534eb8290cc635d", checked := Try.checked }
namespace Rows
def none {H : Type} : Left H := { results := [], args := [] }

/-- 'louvrelaw19.AclExamples': WHATEVER THE INPUT: true; the input reads as it did. -/
def aclExamplesSpec : ChangeSpec := { name := "aclExamples", fn := fun _ => fun
  | [] => { results := [.lit (.bool true)], args := [] }
  | _ => none }
def aclExamplesRow : OpenClaim := { program := "ytlbkomlfgecnaaa", sum := "6f227bf6feb0225a7da3f9b6dbdf3eb5c658ea68d36fd39bc534eb8290cc635d", func := "louvre/louvrelaw19.AclExamples", spec := "aclExamples", apart := false }
def AclExamplesSaid : Prop := aclExamplesRow.holds Try.pinned (OpenSpec.ofChange aclExamplesSpec)

/-- ITS FALSE NEIGHBOUR: 'it returns false'. Refute it at one input. -/
def aclExamplesWrong : ChangeSpec := { name := "aclExamples", fn := fun _ => fun
  | [] => { results := [.lit (.bool false)], args := [] }
  | _ => none }
def AclExamplesWrongFalsely : Prop := aclExamplesRow.holds Try.pinned (OpenSpec.ofChange aclExamplesWrong)

/-- 'louvrelaw21.GrantExamples': WHATEVER THE INPUT: true; the input reads as it did. -/
def grantExamplesSpec : ChangeSpec := { name := "grantExamples", fn := fun _ => fun
  | [] => { results := [.lit (.bool true)], args := [] }
  | _ => none }
def grantExamplesRow : OpenClaim := { program := "ytlbkomlfgecnaaa", sum := "6f227bf6feb0225a7da3f9b6dbdf3eb5c658ea68d36fd39bc534eb8290cc635d", func := "louvre/louvrelaw21.GrantExamples", spec := "grantExamples", unfollowed := true, recurses := true, apart := false }
def GrantExamplesSaid : Prop := grantExamplesRow.holds Try.pinned (OpenSpec.ofChange grantExamplesSpec)

/-- ITS FALSE NEIGHBOUR: 'it returns false'. Refute it at one input. -/
def grantExamplesWrong : ChangeSpec := { name := "grantExamples", fn := fun _ => fun
  | [] => { results := [.lit (.bool false)], args := [] }
  | _ => none }
def GrantExamplesWrongFalsely : Prop := grantExamplesRow.holds Try.pinned (OpenSpec.ofChange grantExamplesWrong)

/-- 'louvrelaw30.AuditExamples': WHATEVER THE INPUT: true; the input reads as it did. -/
def auditExamplesSpec : ChangeSpec := { name := "auditExamples", fn := fun _ => fun
  | [] => { results := [.lit (.bool true)], args := [] }
  | _ => none }
def auditExamplesRow : OpenClaim := { program := "ytlbkomlfgecnaaa", sum := "6f227bf6feb0225a7da3f9b6dbdf3eb5c658ea68d36fd39bc534eb8290cc635d", func := "louvre/louvrelaw30.AuditExamples", spec := "auditExamples", unfollowed := true, recurses := true, apart := false }
def AuditExamplesSaid : Prop := auditExamplesRow.holds Try.pinned (OpenSpec.ofChange auditExamplesSpec)

/-- ITS FALSE NEIGHBOUR: 'it returns false'. Refute it at one input. -/
def auditExamplesWrong : ChangeSpec := { name := "auditExamples", fn := fun _ => fun
  | [] => { results := [.lit (.bool false)], args := [] }
  | _ => none }
def AuditExamplesWrongFalsely : Prop := auditExamplesRow.holds Try.pinned (OpenSpec.ofChange auditExamplesWrong)

/- THE SECOND FORM. 'bulk': how many values and letters a reading holds, each counted each time it is reached (what is shared counts as often as it is met; a slice's spare places count too). A statement '..UptoSaid' is the law's where the arguments, and the package variables that the reading takes, are together of bulk at most 1048576: NARROWER than '..Said'. Prove '..Said' where nothing that the law and all that it calls make is longer than what came in: it says more and counts as full. Else prove '..UptoSaid'. A law counts once. -/
mutual
def uptoBulk {H : Type} : DataW H → Nat
  | .lit (.string bytes) => bytes.length + 1
  | .lit _ => 1
  | .nil => 1
  | .ptr d => uptoBulk d + 1
  | .slice elems spare => uptoBulkAll elems + uptoBulkAll spare + 1
  | .agg parts => uptoBulkAll parts + 1
  | .iface _ d => uptoBulk d + 1
  | .map entries => uptoBulkEntries entries + 1
  | .held _ => 1
def uptoBulkAll {H : Type} : List (DataW H) → Nat
  | [] => 0
  | d :: r => uptoBulk d + uptoBulkAll r
def uptoBulkEntries {H : Type} : List (Lit × DataW H) → Nat
  | [] => 0
  | x :: r => uptoBulkEntry x + uptoBulkEntries r
def uptoBulkEntry {H : Type} : Lit × DataW H → Nat
  | (.string bytes, d) => bytes.length + uptoBulk d + 1
  | (_, d) => uptoBulk d + 1
 end
def uptoSmall : (H : Type) → List (DataW H) → Bool := fun _ ds => decide (uptoBulkAll ds ≤ 1048576)
def OpenSpec.upto (s : _root_.Go.ChangeSpec) : _root_.Go.OpenSpec := { _root_.Go.OpenSpec.ofChange s with cond := some uptoSmall }

/-- 'louvrelaw19.AclExamples', WHERE WHAT IT READS IS OF BULK AT MOST 1048576: true; the input reads as it did. -/
def aclExamplesUptoRow : OpenClaim := { program := "ytlbkomlfgecnaaa", sum := "6f227bf6feb0225a7da3f9b6dbdf3eb5c658ea68d36fd39bc534eb8290cc635d", func := "louvre/louvrelaw19.AclExamples", spec := "aclExamples", apart := false, narrowed := true }
def AclExamplesUptoSaid : Prop := aclExamplesUptoRow.holds Try.pinned (OpenSpec.upto aclExamplesSpec)

/-- 'louvrelaw21.GrantExamples', WHERE WHAT IT READS IS OF BULK AT MOST 1048576: true; the input reads as it did. -/
def grantExamplesUptoRow : OpenClaim := { program := "ytlbkomlfgecnaaa", sum := "6f227bf6feb0225a7da3f9b6dbdf3eb5c658ea68d36fd39bc534eb8290cc635d", func := "louvre/louvrelaw21.GrantExamples", spec := "grantExamples", unfollowed := true, recurses := true, apart := false, narrowed := true }
def GrantExamplesUptoSaid : Prop := grantExamplesUptoRow.holds Try.pinned (OpenSpec.upto grantExamplesSpec)

/-- 'louvrelaw30.AuditExamples', WHERE WHAT IT READS IS OF BULK AT MOST 1048576: true; the input reads as it did. -/
def auditExamplesUptoRow : OpenClaim := { program := "ytlbkomlfgecnaaa", sum := "6f227bf6feb0225a7da3f9b6dbdf3eb5c658ea68d36fd39bc534eb8290cc635d", func := "louvre/louvrelaw30.AuditExamples", spec := "auditExamples", unfollowed := true, recurses := true, apart := false, narrowed := true }
def AuditExamplesUptoSaid : Prop := auditExamplesUptoRow.holds Try.pinned (OpenSpec.upto auditExamplesSpec)

end Rows
end Go.Proofs.Ytlbkomlfgecnaaa
