/- Members: a list collected in a range over a function. -/
import Derived.RangeFuncBox
import Derived.Maps.AppendAt
import Derived.Test.YtndijajaddkbhaaGrpA
namespace Go.Proofs.Ytndijajaddkbhaa
open Go.RowKit Go.Shelf
attribute [local go_sem] Oper.semAt_some
theorem usr_len (x : W64) : (usr x).length ≤ 64 := memL_length _ 64
end Go.Proofs.Ytndijajaddkbhaa
