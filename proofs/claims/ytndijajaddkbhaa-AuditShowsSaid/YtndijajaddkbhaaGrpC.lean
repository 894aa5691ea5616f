/- Members: a list collected in a range over a function. -/
import Derived.Test.YtndijajaddkbhaaGrpB
namespace Go.Proofs.Ytndijajaddkbhaa
open Go.RowKit Go.Shelf
attribute [local go_sem] Oper.semAt_some
end Go.Proofs.Ytndijajaddkbhaa
