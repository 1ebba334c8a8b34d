/- Contract of the laws' own function toPointS. No conditions but that the slice has at most 2^40 elements. -/
import Derived.Test.YtamocldcfbjfgaaPointA
import Derived.Test.YtamocldcfbjfgaaSet3
namespace Go.Proofs.Ytamocldcfbjfgaa
open Go.ChangeShapes Go.WideShapes Go.ChangeAt Go.RowKit
set_option maxRecDepth 100000
end Go.Proofs.Ytamocldcfbjfgaa
