/- Contracts of the laws' own functions markBallotS, heldBallotS. No conditions but the sizes. -/
import Derived.Test.YtamocldcfbjfgaaBallotB
import Derived.Test.YtamocldcfbjfgaaPointC
import Derived.Test.YtamocldcfbjfgaaOne
namespace Go.Proofs.Ytamocldcfbjfgaa
open Go.ChangeShapes Go.WideShapes Go.ChangeAt Go.RowKit
set_option maxRecDepth 100000
end Go.Proofs.Ytamocldcfbjfgaa
