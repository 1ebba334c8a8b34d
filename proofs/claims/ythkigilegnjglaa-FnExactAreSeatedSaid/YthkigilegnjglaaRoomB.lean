/- Contract of the laws' own function toRoomS. No conditions but that the slice has at most 2^40 elements. -/
import Derived.Test.YthkigilegnjglaaRoomA
import Derived.Test.YthkigilegnjglaaSet2
namespace Go.Proofs.Ythkigilegnjglaa
open Go.ChangeShapes Go.WideShapes Go.ChangeAt Go.RowKit
set_option maxRecDepth 100000
end Go.Proofs.Ythkigilegnjglaa
