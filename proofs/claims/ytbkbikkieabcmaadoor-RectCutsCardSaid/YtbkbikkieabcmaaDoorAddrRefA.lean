/- Contracts of the specification's small functions of addresses. -/
import Derived.Test.YtbkbikkieabcmaaDoorAddrB
namespace Go.Proofs.YtbkbikkieabcmaaDoor.Re
open Go.RowKit AM
end Go.Proofs.YtbkbikkieabcmaaDoor.Re
