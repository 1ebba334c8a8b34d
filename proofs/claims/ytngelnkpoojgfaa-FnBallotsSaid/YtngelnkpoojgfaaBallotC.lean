/- Contracts of the laws' own functions markBallotS, heldBallotS. No conditions but the sizes. -/
import Derived.Test.YtngelnkpoojgfaaBallotB
import Derived.Test.YtngelnkpoojgfaaPointC
import Derived.Test.YtngelnkpoojgfaaOne
namespace Go.Proofs.Ytngelnkpoojgfaa
open Go.ChangeShapes Go.WideShapes Go.ChangeAt Go.RowKit
set_option maxRecDepth 100000
end Go.Proofs.Ytngelnkpoojgfaa
