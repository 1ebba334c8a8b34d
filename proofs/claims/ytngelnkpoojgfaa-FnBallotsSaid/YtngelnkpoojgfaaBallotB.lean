/- Contract of the laws' own function toBallotS. No conditions but that the slice has at most 2^40 elements. -/
import Derived.Test.YtngelnkpoojgfaaBallotA
import Derived.Test.YtngelnkpoojgfaaSet3
namespace Go.Proofs.Ytngelnkpoojgfaa
open Go.ChangeShapes Go.WideShapes Go.ChangeAt Go.RowKit
set_option maxRecDepth 100000
theorem BallotS_info : (Try.prog.info? 51).map (fun i => (i.zero, i.size, i.bytes)) = some (some (.agg #[.int .i64 0, .int .i64 0, .int .i64 0]), 3, 24) := by kernel_rfl
end Go.Proofs.Ytngelnkpoojgfaa
