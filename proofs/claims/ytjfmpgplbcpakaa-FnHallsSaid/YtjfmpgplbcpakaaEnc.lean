/- Contracts of EncodeInts, DecodeInts and EqualBytes and of their models. No conditions but that each byte lies in 0 to 255 and that the slices have at most 2^40 elements. -/
import Derived.Test.YtjfmpgplbcpakaaByteStr
import Derived.Test.YtjfmpgplbcpakaaIntS
import Derived.Test.YtjfmpgplbcpakaaEncMath
namespace Go.Proofs.Ytjfmpgplbcpakaa
open Go.ChangeShapes Go.WideShapes Go.ChangeAt Go.RowKit
end Go.Proofs.Ytjfmpgplbcpakaa
