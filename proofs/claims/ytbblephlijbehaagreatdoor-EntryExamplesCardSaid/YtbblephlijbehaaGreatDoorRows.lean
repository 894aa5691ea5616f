/-
  NARROWER THAN 'FOR EVERY INPUT', by the rows' own cells (each row's printed sentence says how): ParseBinds: laid · EntryExamples: laid · OpExamples: laid · OpPlain: laid.
  DERIVED. THE GIVEN ROWS OF THIS SEAT. 4 by the template 'for every input the law returns true; each argument reads behind the call as it read before'; 0 by the template 'total and deterministic' (their statements: YtbblephlijbehaaGreatDoorTotals.lean).
  GIVEN WITH THE SEED: the statements are not yours to turn. If you find one false, say at which input.
  Laid BY PROGRAM, IN A SANDBOX (cutbox-rows.mjs): the forced cells as the released guide's own fill.sh prints them over the translation 5086a8ea89ab574a… (all of the seat's roots in one cut). By AI agents, Wed Nov 11 2026. No macro, syntax, notation, axiom, sorry.
-/
import Derived.Test.YtbblephlijbehaaGreatDoorChecked
import GoSem.PinnedTables
import GoSem.Claim
import GoSem.ClaimJoined
import GoSem.ClaimMapViews
import Derived.JoinedTies
import Derived.KernelRfl
namespace Go.Proofs.YtbblephlijbehaaGreatDoor
/- THE CELL 'sum', in the pinned program and in every row, IS THE sha256 OF THE DUMP (.gsa) THAT YtbblephlijbehaaGreatDoorProg.lean LOADS. Nothing in Lean hashes anything: it is a label: what it is worth is what the hold of that sum in a sandbox is worth. -/
noncomputable def Tryz.pinned : Pinned := { name := "ytbblephlijbehaagreatdoor", sum := "5086a8ea89ab574a5f7fc7b64eee49c89d356a9cd7302f75a22f15f53222c383", checked := Tryz.checked }
namespace Rows
def none {H : Type} : Left H := { results := [], args := [] }

/- WHAT THE LISTED PACKAGE-LEVEL VARIABLES READ AS WHEN THE CALL BEGINS. Each datum BY PROGRAM (the guide's laid-datum.mjs) off the statement by which the dump's own 'gosem.cut.vars' lays the variable. In a bare row this is a premise. The card (YtbblephlijbehaaGreatDoorCards.lean) ties it to the program's text. -/
def laid_math_bits_deBruijn32tab {H : Type} : DataW H := .agg [.lit (.int .u8 0), .lit (.int .u8 1), .lit (.int .u8 28), .lit (.int .u8 2), .lit (.int .u8 29), .lit (.int .u8 14), .lit (.int .u8 24), .lit (.int .u8 3), .lit (.int .u8 30), .lit (.int .u8 22), .lit (.int .u8 20), .lit (.int .u8 15), .lit (.int .u8 25), .lit (.int .u8 17), .lit (.int .u8 4), .lit (.int .u8 8), .lit (.int .u8 31), .lit (.int .u8 27), .lit (.int .u8 13), .lit (.int .u8 23), .lit (.int .u8 21), .lit (.int .u8 19), .lit (.int .u8 16), .lit (.int .u8 7), .lit (.int .u8 26), .lit (.int .u8 12), .lit (.int .u8 18), .lit (.int .u8 6), .lit (.int .u8 11), .lit (.int .u8 5), .lit (.int .u8 10), .lit (.int .u8 9)]
def laid_math_bits_deBruijn64tab {H : Type} : DataW H := .agg [.lit (.int .u8 0), .lit (.int .u8 1), .lit (.int .u8 56), .lit (.int .u8 2), .lit (.int .u8 57), .lit (.int .u8 49), .lit (.int .u8 28), .lit (.int .u8 3), .lit (.int .u8 61), .lit (.int .u8 58), .lit (.int .u8 42), .lit (.int .u8 50), .lit (.int .u8 38), .lit (.int .u8 29), .lit (.int .u8 17), .lit (.int .u8 4), .lit (.int .u8 62), .lit (.int .u8 47), .lit (.int .u8 59), .lit (.int .u8 36), .lit (.int .u8 45), .lit (.int .u8 43), .lit (.int .u8 51), .lit (.int .u8 22), .lit (.int .u8 53), .lit (.int .u8 39), .lit (.int .u8 33), .lit (.int .u8 30), .lit (.int .u8 24), .lit (.int .u8 18), .lit (.int .u8 12), .lit (.int .u8 5), .lit (.int .u8 63), .lit (.int .u8 55), .lit (.int .u8 48), .lit (.int .u8 27), .lit (.int .u8 60), .lit (.int .u8 41), .lit (.int .u8 37), .lit (.int .u8 16), .lit (.int .u8 46), .lit (.int .u8 35), .lit (.int .u8 44), .lit (.int .u8 21), .lit (.int .u8 52), .lit (.int .u8 32), .lit (.int .u8 23), .lit (.int .u8 11), .lit (.int .u8 54), .lit (.int .u8 26), .lit (.int .u8 40), .lit (.int .u8 15), .lit (.int .u8 34), .lit (.int .u8 20), .lit (.int .u8 31), .lit (.int .u8 10), .lit (.int .u8 25), .lit (.int .u8 14), .lit (.int .u8 19), .lit (.int .u8 9), .lit (.int .u8 13), .lit (.int .u8 8), .lit (.int .u8 7), .lit (.int .u8 6)]
def laid_internal_strconv_uint64pow10 {H : Type} : DataW H := .agg [.lit (.int .u64 1), .lit (.int .u64 10), .lit (.int .u64 100), .lit (.int .u64 1000), .lit (.int .u64 10000), .lit (.int .u64 100000), .lit (.int .u64 1000000), .lit (.int .u64 10000000), .lit (.int .u64 100000000), .lit (.int .u64 1000000000), .lit (.int .u64 10000000000), .lit (.int .u64 100000000000), .lit (.int .u64 1000000000000), .lit (.int .u64 10000000000000), .lit (.int .u64 100000000000000), .lit (.int .u64 1000000000000000), .lit (.int .u64 10000000000000000), .lit (.int .u64 100000000000000000), .lit (.int .u64 1000000000000000000), .lit (.int .u64 10000000000000000000)]
def laid_unicode_utf8_acceptRanges {H : Type} : DataW H := .agg [.agg [.lit (.int .u8 128), .lit (.int .u8 191)], .agg [.lit (.int .u8 160), .lit (.int .u8 191)], .agg [.lit (.int .u8 128), .lit (.int .u8 159)], .agg [.lit (.int .u8 144), .lit (.int .u8 191)], .agg [.lit (.int .u8 128), .lit (.int .u8 143)], .agg [.lit (.int .u8 0), .lit (.int .u8 0)], .agg [.lit (.int .u8 0), .lit (.int .u8 0)], .agg [.lit (.int .u8 0), .lit (.int .u8 0)], .agg [.lit (.int .u8 0), .lit (.int .u8 0)], .agg [.lit (.int .u8 0), .lit (.int .u8 0)], .agg [.lit (.int .u8 0), .lit (.int .u8 0)], .agg [.lit (.int .u8 0), .lit (.int .u8 0)], .agg [.lit (.int .u8 0), .lit (.int .u8 0)], .agg [.lit (.int .u8 0), .lit (.int .u8 0)], .agg [.lit (.int .u8 0), .lit (.int .u8 0)], .agg [.lit (.int .u8 0), .lit (.int .u8 0)]]
def laid_louvre_val_names {H : Type} : DataW H := .agg [.lit (.string []), .lit (.string [35, 68, 73, 86, 47, 48, 33]), .lit (.string [35, 86, 65, 76, 85, 69, 33]), .lit (.string [35, 78, 85, 77, 33]), .lit (.string [35, 78, 47, 65]), .lit (.string [35, 82, 69, 70, 33]), .lit (.string [35, 67, 89, 67, 76, 69, 33]), .lit (.string [35, 68, 69, 78, 73, 69, 68])]
def laid_louvre_lex_symbols {H : Type} : DataW H := .agg [.agg [.lit (.string [60, 62]), .lit (.int .u8 8), .lit (.int .i64 8)], .agg [.lit (.string [60, 61]), .lit (.int .u8 8), .lit (.int .i64 10)], .agg [.lit (.string [62, 61]), .lit (.int .u8 8), .lit (.int .i64 12)], .agg [.lit (.string [43]), .lit (.int .u8 8), .lit (.int .i64 1)], .agg [.lit (.string [45]), .lit (.int .u8 8), .lit (.int .i64 2)], .agg [.lit (.string [42]), .lit (.int .u8 8), .lit (.int .i64 3)], .agg [.lit (.string [47]), .lit (.int .u8 8), .lit (.int .i64 4)], .agg [.lit (.string [94]), .lit (.int .u8 8), .lit (.int .i64 5)], .agg [.lit (.string [38]), .lit (.int .u8 8), .lit (.int .i64 6)], .agg [.lit (.string [61]), .lit (.int .u8 8), .lit (.int .i64 7)], .agg [.lit (.string [60]), .lit (.int .u8 8), .lit (.int .i64 9)], .agg [.lit (.string [62]), .lit (.int .u8 8), .lit (.int .i64 11)], .agg [.lit (.string [37]), .lit (.int .u8 8), .lit (.int .i64 13)], .agg [.lit (.string [40]), .lit (.int .u8 9), .lit (.int .i64 0)], .agg [.lit (.string [41]), .lit (.int .u8 10), .lit (.int .i64 0)], .agg [.lit (.string [44]), .lit (.int .u8 11), .lit (.int .i64 0)]]
def laid_louvre_tree_names {H : Type} : DataW H := .agg [.lit (.string []), .lit (.string [65, 66, 83]), .lit (.string [83, 73, 71, 78]), .lit (.string [73, 78, 84]), .lit (.string [84, 82, 85, 78, 67]), .lit (.string [82, 79, 85, 78, 68]), .lit (.string [77, 79, 68]), .lit (.string [80, 79, 87, 69, 82]), .lit (.string [83, 81, 82, 84]), .lit (.string [83, 85, 77]), .lit (.string [80, 82, 79, 68, 85, 67, 84]), .lit (.string [67, 79, 85, 78, 84]), .lit (.string [67, 79, 85, 78, 84, 65]), .lit (.string [67, 79, 85, 78, 84, 66, 76, 65, 78, 75]), .lit (.string [65, 86, 69, 82, 65, 71, 69]), .lit (.string [77, 73, 78]), .lit (.string [77, 65, 88]), .lit (.string [77, 69, 68, 73, 65, 78]), .lit (.string [76, 65, 82, 71, 69]), .lit (.string [83, 77, 65, 76, 76]), .lit (.string [73, 70]), .lit (.string [65, 78, 68]), .lit (.string [79, 82]), .lit (.string [88, 79, 82]), .lit (.string [78, 79, 84]), .lit (.string [73, 70, 69, 82, 82, 79, 82]), .lit (.string [73, 83, 69, 82, 82, 79, 82]), .lit (.string [73, 83, 66, 76, 65, 78, 75]), .lit (.string [73, 83, 78, 85, 77, 66, 69, 82]), .lit (.string [73, 83, 84, 69, 88, 84]), .lit (.string [67, 72, 79, 79, 83, 69]), .lit (.string [76, 69, 78]), .lit (.string [76, 69, 70, 84]), .lit (.string [82, 73, 71, 72, 84]), .lit (.string [77, 73, 68]), .lit (.string [85, 80, 80, 69, 82]), .lit (.string [76, 79, 87, 69, 82]), .lit (.string [84, 82, 73, 77]), .lit (.string [67, 79, 78, 67, 65, 84]), .lit (.string [82, 69, 80, 84]), .lit (.string [69, 88, 65, 67, 84]), .lit (.string [70, 73, 78, 68]), .lit (.string [86, 65, 76, 85, 69]), .lit (.string [73, 78, 68, 69, 88]), .lit (.string [77, 65, 84, 67, 72]), .lit (.string [67, 79, 85, 78, 84, 73, 70]), .lit (.string [68, 83, 85, 77]), .lit (.string [68, 67, 79, 85, 78, 84]), .lit (.string [68, 65, 86, 71]), .lit (.string [68, 77, 73, 78]), .lit (.string [68, 77, 65, 88])]
/-- One of Go's own tables, pinned by name: the form's constant. -/
def laid_unicode_utf8_first : DataW Unit := Go.Pinned.utf8First
def laid_strconv_ErrRange {H : Type} : DataW H := .iface "*errors.errorString" (.ptr (.agg [.lit (.string [118, 97, 108, 117, 101, 32, 111, 117, 116, 32, 111, 102, 32, 114, 97, 110, 103, 101])]))
def laid_strconv_ErrSyntax {H : Type} : DataW H := .iface "*errors.errorString" (.ptr (.agg [.lit (.string [105, 110, 118, 97, 108, 105, 100, 32, 115, 121, 110, 116, 97, 120])]))
def laid_louvre_op_words {H : Type} : DataW H := .agg [.lit (.string []), .lit (.string [108, 111, 103, 105, 110]), .lit (.string [108, 111, 103, 111, 117, 116]), .lit (.string [115, 101, 116]), .lit (.string [99, 108, 101, 97, 114]), .lit (.string [114, 101, 97, 100]), .lit (.string [102, 111, 114, 109, 117, 108, 97]), .lit (.string [114, 117, 108, 101]), .lit (.string [103, 114, 97, 110, 116]), .lit (.string [114, 101, 118, 111, 107, 101]), .lit (.string [97, 117, 100, 105, 116])]

/-- 'louvrelaw09.ParseBinds': WHATEVER THE INPUT: true; the input reads as it did. -/
def parseBindsSpec : ChangeSpec := { name := "parseBinds", fn := fun _ => fun
  | [d] => { results := [.lit (.bool true)], args := [d] }
  | _ => none }
def parseBindsRow : OpenClaim := { program := "ytbblephlijbehaagreatdoor", sum := "5086a8ea89ab574a5f7fc7b64eee49c89d356a9cd7302f75a22f15f53222c383", func := "louvre/louvrelaw09.ParseBinds", spec := "parseBinds", inPlace := ["internal/bytealg.IndexByteString", "internal/bytealg.IndexString"], unfollowed := true, recurses := true, named := ["internal/bytealg.MaxLen", "louvre/val.names", "unicode/utf8.first", "unicode/utf8.acceptRanges", "internal/strconv.uint64pow10", "math/bits.deBruijn32tab", "math/bits.deBruijn64tab", "louvre/lex.symbols", "louvre/tree.names"], apart := false, laid := [("math/bits.deBruijn32tab", laid_math_bits_deBruijn32tab), ("math/bits.deBruijn64tab", laid_math_bits_deBruijn64tab), ("internal/strconv.uint64pow10", laid_internal_strconv_uint64pow10), ("unicode/utf8.acceptRanges", laid_unicode_utf8_acceptRanges), ("louvre/val.names", laid_louvre_val_names), ("louvre/lex.symbols", laid_louvre_lex_symbols), ("louvre/tree.names", laid_louvre_tree_names), ("unicode/utf8.first", laid_unicode_utf8_first)] }
def ParseBindsSaid : Prop := parseBindsRow.holds Tryz.pinned (OpenSpec.ofChange parseBindsSpec)

/-- ITS FALSE NEIGHBOUR: 'it returns false'. Refute it at one input. -/
def parseBindsWrong : ChangeSpec := { name := "parseBinds", fn := fun _ => fun
  | [d] => { results := [.lit (.bool false)], args := [d] }
  | _ => none }
def ParseBindsWrongFalsely : Prop := parseBindsRow.holds Tryz.pinned (OpenSpec.ofChange parseBindsWrong)

/-- 'louvrelaw11.EntryExamples': WHATEVER THE INPUT: true; the input reads as it did. -/
def entryExamplesSpec : ChangeSpec := { name := "entryExamples", fn := fun _ => fun
  | [] => { results := [.lit (.bool true)], args := [] }
  | _ => none }
def entryExamplesRow : OpenClaim := { program := "ytbblephlijbehaagreatdoor", sum := "5086a8ea89ab574a5f7fc7b64eee49c89d356a9cd7302f75a22f15f53222c383", func := "louvre/louvrelaw11.EntryExamples", spec := "entryExamples", inPlace := ["internal/bytealg.IndexByteString", "internal/bytealg.IndexString", "internal/bytealg.CountString", "internal/abi.NoEscape", "internal/bytealg.MakeNoZero"], unfollowed := true, recurses := true, named := ["unicode/utf8.first", "unicode/utf8.acceptRanges", "internal/bytealg.MaxLen", "internal/strconv.uint64pow10", "math/bits.deBruijn32tab", "math/bits.deBruijn64tab", "louvre/val.names", "louvre/lex.symbols", "louvre/tree.names"], apart := false, laid := [("math/bits.deBruijn32tab", laid_math_bits_deBruijn32tab), ("math/bits.deBruijn64tab", laid_math_bits_deBruijn64tab), ("internal/strconv.uint64pow10", laid_internal_strconv_uint64pow10), ("unicode/utf8.acceptRanges", laid_unicode_utf8_acceptRanges), ("louvre/val.names", laid_louvre_val_names), ("louvre/lex.symbols", laid_louvre_lex_symbols), ("louvre/tree.names", laid_louvre_tree_names), ("unicode/utf8.first", laid_unicode_utf8_first)] }
def EntryExamplesSaid : Prop := entryExamplesRow.holds Tryz.pinned (OpenSpec.ofChange entryExamplesSpec)

/-- ITS FALSE NEIGHBOUR: 'it returns false'. Refute it at one input. -/
def entryExamplesWrong : ChangeSpec := { name := "entryExamples", fn := fun _ => fun
  | [] => { results := [.lit (.bool false)], args := [] }
  | _ => none }
def EntryExamplesWrongFalsely : Prop := entryExamplesRow.holds Tryz.pinned (OpenSpec.ofChange entryExamplesWrong)

/-- 'louvrelaw29.OpExamples': WHATEVER THE INPUT: true; the input reads as it did. -/
def opExamplesSpec : ChangeSpec := { name := "opExamples", fn := fun _ => fun
  | [] => { results := [.lit (.bool true)], args := [] }
  | _ => none }
def opExamplesRow : OpenClaim := { program := "ytbblephlijbehaagreatdoor", sum := "5086a8ea89ab574a5f7fc7b64eee49c89d356a9cd7302f75a22f15f53222c383", func := "louvre/louvrelaw29.OpExamples", spec := "opExamples", inPlace := ["internal/abi.NoEscape", "internal/bytealg.MakeNoZero", "internal/bytealg.CountString", "internal/bytealg.IndexByteString", "internal/bytealg.IndexString"], unfollowed := true, recurses := true, named := ["louvre/op.words", "internal/strconv.uint64pow10", "math/bits.deBruijn32tab", "math/bits.deBruijn64tab", "internal/bytealg.MaxLen", "unicode/utf8.first", "unicode/utf8.acceptRanges", "strconv.ErrSyntax", "strconv.ErrRange"], apart := false, laid := [("math/bits.deBruijn32tab", laid_math_bits_deBruijn32tab), ("math/bits.deBruijn64tab", laid_math_bits_deBruijn64tab), ("internal/strconv.uint64pow10", laid_internal_strconv_uint64pow10), ("unicode/utf8.acceptRanges", laid_unicode_utf8_acceptRanges), ("strconv.ErrRange", laid_strconv_ErrRange), ("strconv.ErrSyntax", laid_strconv_ErrSyntax), ("louvre/op.words", laid_louvre_op_words), ("unicode/utf8.first", laid_unicode_utf8_first)] }
def OpExamplesSaid : Prop := opExamplesRow.holds Tryz.pinned (OpenSpec.ofChange opExamplesSpec)

/-- ITS FALSE NEIGHBOUR: 'it returns false'. Refute it at one input. -/
def opExamplesWrong : ChangeSpec := { name := "opExamples", fn := fun _ => fun
  | [] => { results := [.lit (.bool false)], args := [] }
  | _ => none }
def OpExamplesWrongFalsely : Prop := opExamplesRow.holds Tryz.pinned (OpenSpec.ofChange opExamplesWrong)

/-- 'louvrelaw29.OpPlain': WHATEVER THE INPUT: true; the input reads as it did. -/
def opPlainSpec : ChangeSpec := { name := "opPlain", fn := fun _ => fun
  | [d] => { results := [.lit (.bool true)], args := [d] }
  | _ => none }
def opPlainRow : OpenClaim := { program := "ytbblephlijbehaagreatdoor", sum := "5086a8ea89ab574a5f7fc7b64eee49c89d356a9cd7302f75a22f15f53222c383", func := "louvre/louvrelaw29.OpPlain", spec := "opPlain", inPlace := ["internal/bytealg.IndexByteString", "internal/bytealg.IndexString", "internal/bytealg.CountString", "internal/abi.NoEscape", "internal/bytealg.MakeNoZero"], unfollowed := true, recurses := true, named := ["louvre/op.words", "internal/bytealg.MaxLen", "strconv.ErrSyntax", "strconv.ErrRange", "internal/strconv.uint64pow10", "math/bits.deBruijn32tab", "math/bits.deBruijn64tab", "unicode/utf8.first", "unicode/utf8.acceptRanges"], apart := false, laid := [("math/bits.deBruijn32tab", laid_math_bits_deBruijn32tab), ("math/bits.deBruijn64tab", laid_math_bits_deBruijn64tab), ("internal/strconv.uint64pow10", laid_internal_strconv_uint64pow10), ("unicode/utf8.acceptRanges", laid_unicode_utf8_acceptRanges), ("strconv.ErrRange", laid_strconv_ErrRange), ("strconv.ErrSyntax", laid_strconv_ErrSyntax), ("louvre/op.words", laid_louvre_op_words), ("unicode/utf8.first", laid_unicode_utf8_first)] }
def OpPlainSaid : Prop := opPlainRow.holds Tryz.pinned (OpenSpec.ofChange opPlainSpec)

/-- ITS FALSE NEIGHBOUR: 'it returns false'. Refute it at one input. -/
def opPlainWrong : ChangeSpec := { name := "opPlain", fn := fun _ => fun
  | [d] => { results := [.lit (.bool false)], args := [d] }
  | _ => none }
def OpPlainWrongFalsely : Prop := opPlainRow.holds Tryz.pinned (OpenSpec.ofChange opPlainWrong)

/- THE SECOND FORM. 'bulk': how many values and letters a reading holds, each counted each time it is reached (what is shared counts as often as it is met; a slice's spare places count too). A statement '..UptoSaid' is the law's where the arguments, and the package variables that the reading takes, are together of bulk at most 1048576: NARROWER than '..Said'. Prove '..Said' where nothing that the law and all that it calls make is longer than what came in: it says more and counts as full. Else prove '..UptoSaid'. A law counts once. -/
mutual
def uptoBulk {H : Type} : DataW H → Nat
  | .lit (.string bytes) => bytes.length + 1
  | .lit _ => 1
  | .nil => 1
  | .ptr d => uptoBulk d + 1
  | .slice elems spare => uptoBulkAll elems + uptoBulkAll spare + 1
  | .agg parts => uptoBulkAll parts + 1
  | .iface _ d => uptoBulk d + 1
  | .map entries => uptoBulkEntries entries + 1
  | .held _ => 1
def uptoBulkAll {H : Type} : List (DataW H) → Nat
  | [] => 0
  | d :: r => uptoBulk d + uptoBulkAll r
def uptoBulkEntries {H : Type} : List (Lit × DataW H) → Nat
  | [] => 0
  | x :: r => uptoBulkEntry x + uptoBulkEntries r
def uptoBulkEntry {H : Type} : Lit × DataW H → Nat
  | (.string bytes, d) => bytes.length + uptoBulk d + 1
  | (_, d) => uptoBulk d + 1
 end
def uptoSmall : (H : Type) → List (DataW H) → Bool := fun _ ds => decide (uptoBulkAll ds ≤ 1048576)
def OpenSpec.upto (s : _root_.Go.ChangeSpec) : _root_.Go.OpenSpec := { _root_.Go.OpenSpec.ofChange s with cond := some uptoSmall }

/-- 'louvrelaw09.ParseBinds', WHERE WHAT IT READS IS OF BULK AT MOST 1048576: true; the input reads as it did. -/
def parseBindsUptoRow : OpenClaim := { program := "ytbblephlijbehaagreatdoor", sum := "5086a8ea89ab574a5f7fc7b64eee49c89d356a9cd7302f75a22f15f53222c383", func := "louvre/louvrelaw09.ParseBinds", spec := "parseBinds", inPlace := ["internal/bytealg.IndexByteString", "internal/bytealg.IndexString"], unfollowed := true, recurses := true, named := ["internal/bytealg.MaxLen", "louvre/val.names", "unicode/utf8.first", "unicode/utf8.acceptRanges", "internal/strconv.uint64pow10", "math/bits.deBruijn32tab", "math/bits.deBruijn64tab", "louvre/lex.symbols", "louvre/tree.names"], apart := false, laid := [("math/bits.deBruijn32tab", laid_math_bits_deBruijn32tab), ("math/bits.deBruijn64tab", laid_math_bits_deBruijn64tab), ("internal/strconv.uint64pow10", laid_internal_strconv_uint64pow10), ("unicode/utf8.acceptRanges", laid_unicode_utf8_acceptRanges), ("louvre/val.names", laid_louvre_val_names), ("louvre/lex.symbols", laid_louvre_lex_symbols), ("louvre/tree.names", laid_louvre_tree_names), ("unicode/utf8.first", laid_unicode_utf8_first)], narrowed := true }
def ParseBindsUptoSaid : Prop := parseBindsUptoRow.holds Tryz.pinned (OpenSpec.upto parseBindsSpec)

/-- 'louvrelaw11.EntryExamples', WHERE WHAT IT READS IS OF BULK AT MOST 1048576: true; the input reads as it did. -/
def entryExamplesUptoRow : OpenClaim := { program := "ytbblephlijbehaagreatdoor", sum := "5086a8ea89ab574a5f7fc7b64eee49c89d356a9cd7302f75a22f15f53222c383", func := "louvre/louvrelaw11.EntryExamples", spec := "entryExamples", inPlace := ["internal/bytealg.IndexByteString", "internal/bytealg.IndexString", "internal/bytealg.CountString", "internal/abi.NoEscape", "internal/bytealg.MakeNoZero"], unfollowed := true, recurses := true, named := ["unicode/utf8.first", "unicode/utf8.acceptRanges", "internal/bytealg.MaxLen", "internal/strconv.uint64pow10", "math/bits.deBruijn32tab", "math/bits.deBruijn64tab", "louvre/val.names", "louvre/lex.symbols", "louvre/tree.names"], apart := false, laid := [("math/bits.deBruijn32tab", laid_math_bits_deBruijn32tab), ("math/bits.deBruijn64tab", laid_math_bits_deBruijn64tab), ("internal/strconv.uint64pow10", laid_internal_strconv_uint64pow10), ("unicode/utf8.acceptRanges", laid_unicode_utf8_acceptRanges), ("louvre/val.names", laid_louvre_val_names), ("louvre/lex.symbols", laid_louvre_lex_symbols), ("louvre/tree.names", laid_louvre_tree_names), ("unicode/utf8.first", laid_unicode_utf8_first)], narrowed := true }
def EntryExamplesUptoSaid : Prop := entryExamplesUptoRow.holds Tryz.pinned (OpenSpec.upto entryExamplesSpec)

/-- 'louvrelaw29.OpExamples', WHERE WHAT IT READS IS OF BULK AT MOST 1048576: true; the input reads as it did. -/
def opExamplesUptoRow : OpenClaim := { program := "ytbblephlijbehaagreatdoor", sum := "5086a8ea89ab574a5f7fc7b64eee49c89d356a9cd7302f75a22f15f53222c383", func := "louvre/louvrelaw29.OpExamples", spec := "opExamples", inPlace := ["internal/abi.NoEscape", "internal/bytealg.MakeNoZero", "internal/bytealg.CountString", "internal/bytealg.IndexByteString", "internal/bytealg.IndexString"], unfollowed := true, recurses := true, named := ["louvre/op.words", "internal/strconv.uint64pow10", "math/bits.deBruijn32tab", "math/bits.deBruijn64tab", "internal/bytealg.MaxLen", "unicode/utf8.first", "unicode/utf8.acceptRanges", "strconv.ErrSyntax", "strconv.ErrRange"], apart := false, laid := [("math/bits.deBruijn32tab", laid_math_bits_deBruijn32tab), ("math/bits.deBruijn64tab", laid_math_bits_deBruijn64tab), ("internal/strconv.uint64pow10", laid_internal_strconv_uint64pow10), ("unicode/utf8.acceptRanges", laid_unicode_utf8_acceptRanges), ("strconv.ErrRange", laid_strconv_ErrRange), ("strconv.ErrSyntax", laid_strconv_ErrSyntax), ("louvre/op.words", laid_louvre_op_words), ("unicode/utf8.first", laid_unicode_utf8_first)], narrowed := true }
def OpExamplesUptoSaid : Prop := opExamplesUptoRow.holds Tryz.pinned (OpenSpec.upto opExamplesSpec)

/-- 'louvrelaw29.OpPlain', WHERE WHAT IT READS IS OF BULK AT MOST 1048576: true; the input reads as it did. -/
def opPlainUptoRow : OpenClaim := { program := "ytbblephlijbehaagreatdoor", sum := "5086a8ea89ab574a5f7fc7b64eee49c89d356a9cd7302f75a22f15f53222c383", func := "louvre/louvrelaw29.OpPlain", spec := "opPlain", inPlace := ["internal/bytealg.IndexByteString", "internal/bytealg.IndexString", "internal/bytealg.CountString", "internal/abi.NoEscape", "internal/bytealg.MakeNoZero"], unfollowed := true, recurses := true, named := ["louvre/op.words", "internal/bytealg.MaxLen", "strconv.ErrSyntax", "strconv.ErrRange", "internal/strconv.uint64pow10", "math/bits.deBruijn32tab", "math/bits.deBruijn64tab", "unicode/utf8.first", "unicode/utf8.acceptRanges"], apart := false, laid := [("math/bits.deBruijn32tab", laid_math_bits_deBruijn32tab), ("math/bits.deBruijn64tab", laid_math_bits_deBruijn64tab), ("internal/strconv.uint64pow10", laid_internal_strconv_uint64pow10), ("unicode/utf8.acceptRanges", laid_unicode_utf8_acceptRanges), ("strconv.ErrRange", laid_strconv_ErrRange), ("strconv.ErrSyntax", laid_strconv_ErrSyntax), ("louvre/op.words", laid_louvre_op_words), ("unicode/utf8.first", laid_unicode_utf8_first)], narrowed := true }
def OpPlainUptoSaid : Prop := opPlainUptoRow.holds Tryz.pinned (OpenSpec.upto opPlainSpec)

end Rows
end Go.Proofs.YtbblephlijbehaaGreatDoor
