/- Contracts of the specification's small functions of addresses. -/
import Derived.Test.YtigofjamednfpaaAddrB
namespace Go.Proofs.Ytigofjamednfpaa.Re
open Go.RowKit AM
end Go.Proofs.Ytigofjamednfpaa.Re
