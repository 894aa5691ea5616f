/- Contracts of the specification's small functions of addresses. -/
import Derived.Test.YtndijajaddkbhaaAddrB
namespace Go.Proofs.Ytndijajaddkbhaa.Re
open Go.RowKit AM
end Go.Proofs.Ytndijajaddkbhaa.Re
