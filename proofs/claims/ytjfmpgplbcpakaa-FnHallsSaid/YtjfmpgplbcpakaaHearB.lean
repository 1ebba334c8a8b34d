/- Contract of the laws' own function toHearerS. No conditions but that the slice has at most 2^40 elements. -/
import Derived.Test.YtjfmpgplbcpakaaHearA
import Derived.Test.YtjfmpgplbcpakaaSet2
namespace Go.Proofs.Ytjfmpgplbcpakaa
open Go.ChangeShapes Go.WideShapes Go.ChangeAt Go.RowKit
set_option maxRecDepth 100000
theorem HearerS_info : (Try.prog.info? 40).map (fun i => (i.zero, i.size, i.bytes)) = some (some (.agg #[.int .i64 0, .int .i64 0]), 2, 16) := by kernel_rfl
end Go.Proofs.Ytjfmpgplbcpakaa
