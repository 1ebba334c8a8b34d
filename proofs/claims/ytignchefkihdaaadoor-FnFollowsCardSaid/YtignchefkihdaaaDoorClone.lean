/- Contract of slices.Clone. Condition: the slice has at most 2^40 elements. -/
import Derived.Test.YtignchefkihdaaaDoorMg4
import Derived.Test.YtignchefkihdaaaDoorMg2
import Derived.Lib.SliceRun
namespace Go.Proofs.YtignchefkihdaaaDoor
open Go.ChangeShapes Go.WideShapes Go.ChangeAt Go.RowKit
set_option maxRecDepth 100000
end Go.Proofs.YtignchefkihdaaaDoor
