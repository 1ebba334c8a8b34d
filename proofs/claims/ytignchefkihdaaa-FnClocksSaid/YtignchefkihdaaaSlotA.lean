/- Contracts of the laws' own functions over slots: toSlot, eqSlot, szSlotS, toSlotS, eqSlotS. No conditions but that the slices have at most 2^40 elements. -/
import Derived.Test.YtignchefkihdaaaOpen3
import Derived.Test.YtignchefkihdaaaGraph
import Derived.BigQuiet
import Derived.Deep.Quiet
namespace Go.Proofs.Ytignchefkihdaaa
open Go.ChangeShapes Go.WideShapes Go.ChangeAt Go.RowKit
set_option maxRecDepth 100000
/-- A struct of three integers as a value. -/
def t3V (p : T3) : Value := .agg #[.int .i64 p.1, .int .i64 p.2.1, .int .i64 p.2.2]
end Go.Proofs.Ytignchefkihdaaa
