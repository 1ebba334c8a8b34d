/- Contract of the code's IsFormula. Condition: the slice has at most 2^40 elements. -/
import Derived.Test.YtfcckpapcnhejaaDoorTreeOf
namespace Go.Proofs.YtfcckpapcnhejaaDoor
open Go.ChangeShapes Go.WideShapes Go.ChangeAt Go.RowKit
set_option maxRecDepth 100000
end Go.Proofs.YtfcckpapcnhejaaDoor
