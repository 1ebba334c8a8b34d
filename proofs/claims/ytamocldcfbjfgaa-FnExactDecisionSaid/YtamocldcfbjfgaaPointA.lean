/- Contracts of the laws' own functions over points: toPoint, eqPoint, szPointS, toPointS, eqPointS. No conditions but that the slices have at most 2^40 elements. -/
import Derived.Test.YtamocldcfbjfgaaOpen3
import Derived.Test.YtamocldcfbjfgaaGraph
import Derived.BigQuiet
import Derived.Deep.Quiet
namespace Go.Proofs.Ytamocldcfbjfgaa
open Go.ChangeShapes Go.WideShapes Go.ChangeAt Go.RowKit
set_option maxRecDepth 100000
end Go.Proofs.Ytamocldcfbjfgaa
