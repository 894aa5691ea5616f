/- Contracts of addr: the kinds of bytes, and what is read of an address. -/
import Derived.Test.YtbkbikkieabcmaaDoorProg
import Derived.Test.YtbkbikkieabcmaaDoorAddrMath
import Derived.WalkKit
import Derived.WalkSpells
import Derived.WalkLawsBesides
import Derived.Lib.Hide
import Derived.BigQuiet
import Derived.Deep.QuietTactic
import Derived.Outline
namespace Go.Proofs.YtbkbikkieabcmaaDoor.Re
open Go.RowKit AM

theorem ret2I {a b c d : Int} {k : IntKind} (h : a = c) (h' : b = d) : Ending.returned (.tuple #[.int k a, .int k b]) = .returned (.tuple #[.int k c, .int k d]) := by rw [h, h']

end Go.Proofs.YtbkbikkieabcmaaDoor.Re
