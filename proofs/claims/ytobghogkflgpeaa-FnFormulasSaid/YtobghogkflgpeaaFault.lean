/- Contracts of the code's faultOf, IsFree, IsAdmissible, IsStable, IsComplete. No conditions but that the slices have at most 2^40 elements. -/
import Derived.Test.YtobghogkflgpeaaFreeC
import Derived.Test.YtobghogkflgpeaaGroundM
import Derived.WideLaws
namespace Go.Proofs.Ytobghogkflgpeaa
open Go.ChangeShapes Go.WideShapes Go.ChangeAt Go.RowKit
set_option maxRecDepth 100000
theorem and_u16 {a b : Nat} (ha : a < 65536) (hb : b < 65536) : bits .and .u16 (a : Int) (b : Int) = ((a &&& b : Nat) : Int) := u16_and_nat a b ha hb
end Go.Proofs.Ytobghogkflgpeaa
