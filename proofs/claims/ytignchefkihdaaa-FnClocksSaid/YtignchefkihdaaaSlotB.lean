/- Contract of the laws' own function toSlotS. No conditions but that the slice has at most 2^40 elements. -/
import Derived.Test.YtignchefkihdaaaSlotA
import Derived.Test.YtignchefkihdaaaSet3
namespace Go.Proofs.Ytignchefkihdaaa
open Go.ChangeShapes Go.WideShapes Go.ChangeAt Go.RowKit
set_option maxRecDepth 100000
theorem SlotS_info : (Try.prog.info? 53).map (fun i => (i.zero, i.size, i.bytes)) = some (some (.agg #[.int .i64 0, .int .i64 0, .int .i64 0]), 3, 24) := by kernel_rfl
end Go.Proofs.Ytignchefkihdaaa
