/- Contract of math/bits.OnesCount64, for every number of 64 bits. No conditions. -/
import Derived.Test.YtignchefkihdaaaMg12
import Derived.Test.YtignchefkihdaaaMg4
import Derived.IntWalk
import Derived.Laws.Bits128
namespace Go.Proofs.Ytignchefkihdaaa
open Go.ChangeShapes Go.WideShapes Go.ChangeAt Go.RowKit
set_option maxRecDepth 100000
theorem and_u64 (a : Nat) {m : Nat} {z : Int} (ha : a < 18446744073709551616) (hm : m < 18446744073709551616) (hz : z = (m : Int)) : bits .and .u64 (a : Int) z = ((a &&& m : Nat) : Int) := by
  rw [hz]; exact u64_and_nat a m ha hm
theorem mk85 : mk 85 8 = 6148914691236517205 := by decide +kernel
theorem mk51 : mk 51 8 = 3689348814741910323 := by decide +kernel
theorem mk15 : mk 15 8 = 1085102592571150095 := by decide +kernel
end Go.Proofs.Ytignchefkihdaaa
