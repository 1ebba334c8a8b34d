/- Contract of slices.Clone. Condition: the slice has at most 2^40 elements. -/
import Derived.Test.YtobghogkflgpeaaMg1
import Derived.Test.YtobghogkflgpeaaMg0
import Derived.Lib.SliceRun
namespace Go.Proofs.Ytobghogkflgpeaa
open Go.ChangeShapes Go.WideShapes Go.ChangeAt Go.RowKit
set_option maxRecDepth 100000
end Go.Proofs.Ytobghogkflgpeaa
