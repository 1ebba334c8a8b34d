/- Contracts of EncodeInts, DecodeInts and EqualBytes and of their models. No conditions but that each byte lies in 0 to 255 and that the slices have at most 2^40 elements. -/
import Derived.Test.YtdpaoaoipnoiiaaMg3
import Derived.Test.YtdpaoaoipnoiiaaIntS
import Derived.Test.YtdpaoaoipnoiiaaEncMath
namespace Go.Proofs.Ytdpaoaoipnoiiaa
open Go.ChangeShapes Go.WideShapes Go.ChangeAt Go.RowKit
end Go.Proofs.Ytdpaoaoipnoiiaa
