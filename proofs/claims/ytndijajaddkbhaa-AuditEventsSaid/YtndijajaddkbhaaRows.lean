/-
  No cell of these rows narrows 'for every input' (looked for: loops, veiled, ifaces, maps, wideKeys, modest, calm, conditions, laid).
  DERIVED. THE GIVEN ROWS OF THIS SEAT. 10 by the template 'for every input the law returns true; each argument reads behind the call as it read before'; 0 by the template 'total and deterministic' (their statements: YtndijajaddkbhaaTotals.lean).
  GIVEN WITH THE SEED: the statements are not yours to turn. If you find one false, say at which input.
  Laid BY PROGRAM, IN A SANDBOX (cutbox-rows.mjs): the forced cells as the released guide's own fill.sh prints them over the translation 5d8e112d6d458d5e… (all of the seat's roots in one cut). By AI agents, Wed Nov 11 2026. No macro, syntax, notation, axiom, sorry.
-/
import Derived.Test.YtndijajaddkbhaaChecked
import GoSem.Claim
import GoSem.ClaimJoined
import GoSem.ClaimMapViews
import Derived.JoinedTies
import Derived.KernelRfl
namespace Go.Proofs.Ytndijajaddkbhaa
/- THE CELL 'sum', in the pinned program and in every row, IS THE sha256 OF THE DUMP (.gsa) THAT YtndijajaddkbhaaProg.lean LOADS. Nothing in Lean hashes anything: it is a label: what it is worth is what the hold of that sum in a sandbox is worth. -/
noncomputable def Try.pinned : Pinned := { name := "ytndijajaddkbhaa", sum := "5d8e112d6d458d5e4bea46325abb514cde7ae60ad10594894e2a30aa96226df6", checked := Try.checked }
namespace Rows
def none {H : Type} : Left H := { results := [], args := [] }

/-- 'louvrelaw19.AclPlain': WHATEVER THE INPUT: true; the input reads as it did. -/
def aclPlainSpec : ChangeSpec := { name := "aclPlain", fn := fun _ => fun
  | [d] => { results := [.lit (.bool true)], args := [d] }
  | _ => none }
def aclPlainRow : OpenClaim := { program := "ytndijajaddkbhaa", sum := "5d8e112d6d458d5e4bea46325abb514cde7ae60ad10594894e2a30aa96226df6", func := "louvre/louvrelaw19.AclPlain", spec := "aclPlain", apart := false }
def AclPlainSaid : Prop := aclPlainRow.holds Try.pinned (OpenSpec.ofChange aclPlainSpec)

/-- ITS FALSE NEIGHBOUR: 'it returns false'. Refute it at one input. -/
def aclPlainWrong : ChangeSpec := { name := "aclPlain", fn := fun _ => fun
  | [d] => { results := [.lit (.bool false)], args := [d] }
  | _ => none }
def AclPlainWrongFalsely : Prop := aclPlainRow.holds Try.pinned (OpenSpec.ofChange aclPlainWrong)

/-- 'louvrelaw19.AclSpends': WHATEVER THE INPUT: true; the input reads as it did. -/
def aclSpendsSpec : ChangeSpec := { name := "aclSpends", fn := fun _ => fun
  | [d1, d2, d3] => { results := [.lit (.bool true)], args := [d1, d2, d3] }
  | _ => none }
def aclSpendsRow : OpenClaim := { program := "ytndijajaddkbhaa", sum := "5d8e112d6d458d5e4bea46325abb514cde7ae60ad10594894e2a30aa96226df6", func := "louvre/louvrelaw19.AclSpends", spec := "aclSpends", apart := false }
def AclSpendsSaid : Prop := aclSpendsRow.holds Try.pinned (OpenSpec.ofChange aclSpendsSpec)

/-- ITS FALSE NEIGHBOUR: 'it returns false'. Refute it at one input. -/
def aclSpendsWrong : ChangeSpec := { name := "aclSpends", fn := fun _ => fun
  | [d1, d2, d3] => { results := [.lit (.bool false)], args := [d1, d2, d3] }
  | _ => none }
def AclSpendsWrongFalsely : Prop := aclSpendsRow.holds Try.pinned (OpenSpec.ofChange aclSpendsWrong)

/-- 'louvrelaw20.RegionParts': WHATEVER THE INPUT: true; the input reads as it did. -/
def regionPartsSpec : ChangeSpec := { name := "regionParts", fn := fun _ => fun
  | [d1, d2] => { results := [.lit (.bool true)], args := [d1, d2] }
  | _ => none }
def regionPartsRow : OpenClaim := { program := "ytndijajaddkbhaa", sum := "5d8e112d6d458d5e4bea46325abb514cde7ae60ad10594894e2a30aa96226df6", func := "louvre/louvrelaw20.RegionParts", spec := "regionParts", unfollowed := true, recurses := true, apart := false }
def RegionPartsSaid : Prop := regionPartsRow.holds Try.pinned (OpenSpec.ofChange regionPartsSpec)

/-- ITS FALSE NEIGHBOUR: 'it returns false'. Refute it at one input. -/
def regionPartsWrong : ChangeSpec := { name := "regionParts", fn := fun _ => fun
  | [d1, d2] => { results := [.lit (.bool false)], args := [d1, d2] }
  | _ => none }
def RegionPartsWrongFalsely : Prop := regionPartsRow.holds Try.pinned (OpenSpec.ofChange regionPartsWrong)

/-- 'louvrelaw20.RegionDiffers': WHATEVER THE INPUT: true; the input reads as it did. -/
def regionDiffersSpec : ChangeSpec := { name := "regionDiffers", fn := fun _ => fun
  | [d1, d2, d3] => { results := [.lit (.bool true)], args := [d1, d2, d3] }
  | _ => none }
def regionDiffersRow : OpenClaim := { program := "ytndijajaddkbhaa", sum := "5d8e112d6d458d5e4bea46325abb514cde7ae60ad10594894e2a30aa96226df6", func := "louvre/louvrelaw20.RegionDiffers", spec := "regionDiffers", unfollowed := true, recurses := true, apart := false }
def RegionDiffersSaid : Prop := regionDiffersRow.holds Try.pinned (OpenSpec.ofChange regionDiffersSpec)

/-- ITS FALSE NEIGHBOUR: 'it returns false'. Refute it at one input. -/
def regionDiffersWrong : ChangeSpec := { name := "regionDiffers", fn := fun _ => fun
  | [d1, d2, d3] => { results := [.lit (.bool false)], args := [d1, d2, d3] }
  | _ => none }
def RegionDiffersWrongFalsely : Prop := regionDiffersRow.holds Try.pinned (OpenSpec.ofChange regionDiffersWrong)

/-- 'louvrelaw21.GrantLives': WHATEVER THE INPUT: true; the input reads as it did. -/
def grantLivesSpec : ChangeSpec := { name := "grantLives", fn := fun _ => fun
  | [d1, d2, d3, d4] => { results := [.lit (.bool true)], args := [d1, d2, d3, d4] }
  | _ => none }
def grantLivesRow : OpenClaim := { program := "ytndijajaddkbhaa", sum := "5d8e112d6d458d5e4bea46325abb514cde7ae60ad10594894e2a30aa96226df6", func := "louvre/louvrelaw21.GrantLives", spec := "grantLives", unfollowed := true, recurses := true, apart := false }
def GrantLivesSaid : Prop := grantLivesRow.holds Try.pinned (OpenSpec.ofChange grantLivesSpec)

/-- ITS FALSE NEIGHBOUR: 'it returns false'. Refute it at one input. -/
def grantLivesWrong : ChangeSpec := { name := "grantLives", fn := fun _ => fun
  | [d1, d2, d3, d4] => { results := [.lit (.bool false)], args := [d1, d2, d3, d4] }
  | _ => none }
def GrantLivesWrongFalsely : Prop := grantLivesRow.holds Try.pinned (OpenSpec.ofChange grantLivesWrong)

/-- 'louvrelaw30.AuditChecks': WHATEVER THE INPUT: true; the input reads as it did. -/
def auditChecksSpec : ChangeSpec := { name := "auditChecks", fn := fun _ => fun
  | [d1, d2, d3] => { results := [.lit (.bool true)], args := [d1, d2, d3] }
  | _ => none }
def auditChecksRow : OpenClaim := { program := "ytndijajaddkbhaa", sum := "5d8e112d6d458d5e4bea46325abb514cde7ae60ad10594894e2a30aa96226df6", func := "louvre/louvrelaw30.AuditChecks", spec := "auditChecks", unfollowed := true, recurses := true, apart := false }
def AuditChecksSaid : Prop := auditChecksRow.holds Try.pinned (OpenSpec.ofChange auditChecksSpec)

/-- ITS FALSE NEIGHBOUR: 'it returns false'. Refute it at one input. -/
def auditChecksWrong : ChangeSpec := { name := "auditChecks", fn := fun _ => fun
  | [d1, d2, d3] => { results := [.lit (.bool false)], args := [d1, d2, d3] }
  | _ => none }
def AuditChecksWrongFalsely : Prop := auditChecksRow.holds Try.pinned (OpenSpec.ofChange auditChecksWrong)

/-- 'louvrelaw30.AuditShows': WHATEVER THE INPUT: true; the input reads as it did. -/
def auditShowsSpec : ChangeSpec := { name := "auditShows", fn := fun _ => fun
  | [d1, d2, d3, d4] => { results := [.lit (.bool true)], args := [d1, d2, d3, d4] }
  | _ => none }
def auditShowsRow : OpenClaim := { program := "ytndijajaddkbhaa", sum := "5d8e112d6d458d5e4bea46325abb514cde7ae60ad10594894e2a30aa96226df6", func := "louvre/louvrelaw30.AuditShows", spec := "auditShows", unfollowed := true, recurses := true, apart := false }
def AuditShowsSaid : Prop := auditShowsRow.holds Try.pinned (OpenSpec.ofChange auditShowsSpec)

/-- ITS FALSE NEIGHBOUR: 'it returns false'. Refute it at one input. -/
def auditShowsWrong : ChangeSpec := { name := "auditShows", fn := fun _ => fun
  | [d1, d2, d3, d4] => { results := [.lit (.bool false)], args := [d1, d2, d3, d4] }
  | _ => none }
def AuditShowsWrongFalsely : Prop := auditShowsRow.holds Try.pinned (OpenSpec.ofChange auditShowsWrong)

/-- 'louvrelaw30.AuditEvents': WHATEVER THE INPUT: true; the input reads as it did. -/
def auditEventsSpec : ChangeSpec := { name := "auditEvents", fn := fun _ => fun
  | [d1, d2, d3, d4, d5] => { results := [.lit (.bool true)], args := [d1, d2, d3, d4, d5] }
  | _ => none }
def auditEventsRow : OpenClaim := { program := "ytndijajaddkbhaa", sum := "5d8e112d6d458d5e4bea46325abb514cde7ae60ad10594894e2a30aa96226df6", func := "louvre/louvrelaw30.AuditEvents", spec := "auditEvents", unfollowed := true, recurses := true, apart := false }
def AuditEventsSaid : Prop := auditEventsRow.holds Try.pinned (OpenSpec.ofChange auditEventsSpec)

/-- ITS FALSE NEIGHBOUR: 'it returns false'. Refute it at one input. -/
def auditEventsWrong : ChangeSpec := { name := "auditEvents", fn := fun _ => fun
  | [d1, d2, d3, d4, d5] => { results := [.lit (.bool false)], args := [d1, d2, d3, d4, d5] }
  | _ => none }
def AuditEventsWrongFalsely : Prop := auditEventsRow.holds Try.pinned (OpenSpec.ofChange auditEventsWrong)

/-- 'louvrelaw30.AuditPrefix': WHATEVER THE INPUT: true; the input reads as it did. -/
def auditPrefixSpec : ChangeSpec := { name := "auditPrefix", fn := fun _ => fun
  | [d1, d2, d3] => { results := [.lit (.bool true)], args := [d1, d2, d3] }
  | _ => none }
def auditPrefixRow : OpenClaim := { program := "ytndijajaddkbhaa", sum := "5d8e112d6d458d5e4bea46325abb514cde7ae60ad10594894e2a30aa96226df6", func := "louvre/louvrelaw30.AuditPrefix", spec := "auditPrefix", unfollowed := true, recurses := true, apart := false }
def AuditPrefixSaid : Prop := auditPrefixRow.holds Try.pinned (OpenSpec.ofChange auditPrefixSpec)

/-- ITS FALSE NEIGHBOUR: 'it returns false'. Refute it at one input. -/
def auditPrefixWrong : ChangeSpec := { name := "auditPrefix", fn := fun _ => fun
  | [d1, d2, d3] => { results := [.lit (.bool false)], args := [d1, d2, d3] }
  | _ => none }
def AuditPrefixWrongFalsely : Prop := auditPrefixRow.holds Try.pinned (OpenSpec.ofChange auditPrefixWrong)

/-- 'louvrelaw30.AuditOwners': WHATEVER THE INPUT: true; the input reads as it did. -/
def auditOwnersSpec : ChangeSpec := { name := "auditOwners", fn := fun _ => fun
  | [d1, d2, d3, d4, d5] => { results := [.lit (.bool true)], args := [d1, d2, d3, d4, d5] }
  | _ => none }
def auditOwnersRow : OpenClaim := { program := "ytndijajaddkbhaa", sum := "5d8e112d6d458d5e4bea46325abb514cde7ae60ad10594894e2a30aa96226df6", func := "louvre/louvrelaw30.AuditOwners", spec := "auditOwners", unfollowed := true, recurses := true, apart := false }
def AuditOwnersSaid : Prop := auditOwnersRow.holds Try.pinned (OpenSpec.ofChange auditOwnersSpec)

/-- ITS FALSE NEIGHBOUR: 'it returns false'. Refute it at one input. -/
def auditOwnersWrong : ChangeSpec := { name := "auditOwners", fn := fun _ => fun
  | [d1, d2, d3, d4, d5] => { results := [.lit (.bool false)], args := [d1, d2, d3, d4, d5] }
  | _ => none }
def AuditOwnersWrongFalsely : Prop := auditOwnersRow.holds Try.pinned (OpenSpec.ofChange auditOwnersWrong)

/- THE SECOND FORM. 'bulk': how many values and letters a reading holds, each counted each time it is reached (what is shared counts as often as it is met; a slice's spare places count too). A statement '..UptoSaid' is the law's where the arguments, and the package variables that the reading takes, are together of bulk at most 1048576: NARROWER than '..Said'. Prove '..Said' where nothing that the law and all that it calls make is longer than what came in: it says more and counts as full. Else prove '..UptoSaid'. A law counts once. -/
mutual
def uptoBulk {H : Type} : DataW H → Nat
  | .lit (.string bytes) => bytes.length + 1
  | .lit _ => 1
  | .nil => 1
  | .ptr d => uptoBulk d + 1
  | .slice elems spare => uptoBulkAll elems + uptoBulkAll spare + 1
  | .agg parts => uptoBulkAll parts + 1
  | .iface _ d => uptoBulk d + 1
  | .map entries => uptoBulkEntries entries + 1
  | .held _ => 1
def uptoBulkAll {H : Type} : List (DataW H) → Nat
  | [] => 0
  | d :: r => uptoBulk d + uptoBulkAll r
def uptoBulkEntries {H : Type} : List (Lit × DataW H) → Nat
  | [] => 0
  | x :: r => uptoBulkEntry x + uptoBulkEntries r
def uptoBulkEntry {H : Type} : Lit × DataW H → Nat
  | (.string bytes, d) => bytes.length + uptoBulk d + 1
  | (_, d) => uptoBulk d + 1
 end
def uptoSmall : (H : Type) → List (DataW H) → Bool := fun _ ds => decide (uptoBulkAll ds ≤ 1048576)
def OpenSpec.upto (s : _root_.Go.ChangeSpec) : _root_.Go.OpenSpec := { _root_.Go.OpenSpec.ofChange s with cond := some uptoSmall }

/-- 'louvrelaw19.AclPlain', WHERE WHAT IT READS IS OF BULK AT MOST 1048576: true; the input reads as it did. -/
def aclPlainUptoRow : OpenClaim := { program := "ytndijajaddkbhaa", sum := "5d8e112d6d458d5e4bea46325abb514cde7ae60ad10594894e2a30aa96226df6", func := "louvre/louvrelaw19.AclPlain", spec := "aclPlain", apart := false, narrowed := true }
def AclPlainUptoSaid : Prop := aclPlainUptoRow.holds Try.pinned (OpenSpec.upto aclPlainSpec)

/-- 'louvrelaw19.AclSpends', WHERE WHAT IT READS IS OF BULK AT MOST 1048576: true; the input reads as it did. -/
def aclSpendsUptoRow : OpenClaim := { program := "ytndijajaddkbhaa", sum := "5d8e112d6d458d5e4bea46325abb514cde7ae60ad10594894e2a30aa96226df6", func := "louvre/louvrelaw19.AclSpends", spec := "aclSpends", apart := false, narrowed := true }
def AclSpendsUptoSaid : Prop := aclSpendsUptoRow.holds Try.pinned (OpenSpec.upto aclSpendsSpec)

/-- 'louvrelaw20.RegionParts', WHERE WHAT IT READS IS OF BULK AT MOST 1048576: true; the input reads as it did. -/
def regionPartsUptoRow : OpenClaim := { program := "ytndijajaddkbhaa", sum := "5d8e112d6d458d5e4bea46325abb514cde7ae60ad10594894e2a30aa96226df6", func := "louvre/louvrelaw20.RegionParts", spec := "regionParts", unfollowed := true, recurses := true, apart := false, narrowed := true }
def RegionPartsUptoSaid : Prop := regionPartsUptoRow.holds Try.pinned (OpenSpec.upto regionPartsSpec)

/-- 'louvrelaw20.RegionDiffers', WHERE WHAT IT READS IS OF BULK AT MOST 1048576: true; the input reads as it did. -/
def regionDiffersUptoRow : OpenClaim := { program := "ytndijajaddkbhaa", sum := "5d8e112d6d458d5e4bea46325abb514cde7ae60ad10594894e2a30aa96226df6", func := "louvre/louvrelaw20.RegionDiffers", spec := "regionDiffers", unfollowed := true, recurses := true, apart := false, narrowed := true }
def RegionDiffersUptoSaid : Prop := regionDiffersUptoRow.holds Try.pinned (OpenSpec.upto regionDiffersSpec)

/-- 'louvrelaw21.GrantLives', WHERE WHAT IT READS IS OF BULK AT MOST 1048576: true; the input reads as it did. -/
def grantLivesUptoRow : OpenClaim := { program := "ytndijajaddkbhaa", sum := "5d8e112d6d458d5e4bea46325abb514cde7ae60ad10594894e2a30aa96226df6", func := "louvre/louvrelaw21.GrantLives", spec := "grantLives", unfollowed := true, recurses := true, apart := false, narrowed := true }
def GrantLivesUptoSaid : Prop := grantLivesUptoRow.holds Try.pinned (OpenSpec.upto grantLivesSpec)

/-- 'louvrelaw30.AuditChecks', WHERE WHAT IT READS IS OF BULK AT MOST 1048576: true; the input reads as it did. -/
def auditChecksUptoRow : OpenClaim := { program := "ytndijajaddkbhaa", sum := "5d8e112d6d458d5e4bea46325abb514cde7ae60ad10594894e2a30aa96226df6", func := "louvre/louvrelaw30.AuditChecks", spec := "auditChecks", unfollowed := true, recurses := true, apart := false, narrowed := true }
def AuditChecksUptoSaid : Prop := auditChecksUptoRow.holds Try.pinned (OpenSpec.upto auditChecksSpec)

/-- 'louvrelaw30.AuditShows', WHERE WHAT IT READS IS OF BULK AT MOST 1048576: true; the input reads as it did. -/
def auditShowsUptoRow : OpenClaim := { program := "ytndijajaddkbhaa", sum := "5d8e112d6d458d5e4bea46325abb514cde7ae60ad10594894e2a30aa96226df6", func := "louvre/louvrelaw30.AuditShows", spec := "auditShows", unfollowed := true, recurses := true, apart := false, narrowed := true }
def AuditShowsUptoSaid : Prop := auditShowsUptoRow.holds Try.pinned (OpenSpec.upto auditShowsSpec)

/-- 'louvrelaw30.AuditEvents', WHERE WHAT IT READS IS OF BULK AT MOST 1048576: true; the input reads as it did. -/
def auditEventsUptoRow : OpenClaim := { program := "ytndijajaddkbhaa", sum := "5d8e112d6d458d5e4bea46325abb514cde7ae60ad10594894e2a30aa96226df6", func := "louvre/louvrelaw30.AuditEvents", spec := "auditEvents", unfollowed := true, recurses := true, apart := false, narrowed := true }
def AuditEventsUptoSaid : Prop := auditEventsUptoRow.holds Try.pinned (OpenSpec.upto auditEventsSpec)

/-- 'louvrelaw30.AuditPrefix', WHERE WHAT IT READS IS OF BULK AT MOST 1048576: true; the input reads as it did. -/
def auditPrefixUptoRow : OpenClaim := { program := "ytndijajaddkbhaa", sum := "5d8e112d6d458d5e4bea46325abb514cde7ae60ad10594894e2a30aa96226df6", func := "louvre/louvrelaw30.AuditPrefix", spec := "auditPrefix", unfollowed := true, recurses := true, apart := false, narrowed := true }
def AuditPrefixUptoSaid : Prop := auditPrefixUptoRow.holds Try.pinned (OpenSpec.upto auditPrefixSpec)

/-- 'louvrelaw30.AuditOwners', WHERE WHAT IT READS IS OF BULK AT MOST 1048576: true; the input reads as it did. -/
def auditOwnersUptoRow : OpenClaim := { program := "ytndijajaddkbhaa", sum := "5d8e112d6d458d5e4bea46325abb514cde7ae60ad10594894e2a30aa96226df6", func := "louvre/louvrelaw30.AuditOwners", spec := "auditOwners", unfollowed := true, recurses := true, apart := false, narrowed := true }
def AuditOwnersUptoSaid : Prop := auditOwnersUptoRow.holds Try.pinned (OpenSpec.upto auditOwnersSpec)

end Rows
end Go.Proofs.Ytndijajaddkbhaa
