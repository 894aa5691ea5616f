/- Members: a list collected in a range over a function. -/
import Derived.Test.YtigofjamednfpaaGrpB
namespace Go.Proofs.Ytigofjamednfpaa
open Go.RowKit Go.Shelf
attribute [local go_sem] Oper.semAt_some
end Go.Proofs.Ytigofjamednfpaa
