/- Contracts of the laws' own functions over rooms: toRoom, eqRoom, szRoomS, toRoomS, eqRoomS. No conditions but that the slices have at most 2^40 elements. -/
import Derived.Test.YthkigilegnjglaaMg11
import Derived.Test.YthkigilegnjglaaHearA
import Derived.Test.YthkigilegnjglaaMg5
import Derived.BigQuiet
import Derived.Deep.Quiet
namespace Go.Proofs.Ythkigilegnjglaa
open Go.ChangeShapes Go.WideShapes Go.ChangeAt Go.RowKit
set_option maxRecDepth 100000
end Go.Proofs.Ythkigilegnjglaa
