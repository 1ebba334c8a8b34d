/- Contracts of EqualInts, its model and slices.Equal. No conditions but that the slices have at most 2^44 - 512 elements. -/
import Derived.Test.YtignchefkihdaaaDoorMg4
namespace Go.Proofs.YtignchefkihdaaaDoor
open Go.ChangeShapes Go.WideShapes Go.ChangeAt Go.RowKit
end Go.Proofs.YtignchefkihdaaaDoor
