/- Contracts of the code's haveAscendingIds at rooms, teams, judges and integers, with each of its functions. Condition: the slices have at most 2^40 elements. -/
import Derived.Test.YtdhnhhicjjcmdaaAscMath
import Derived.Test.YtdhnhhicjjcmdaaGraph
import Derived.Test.YtdhnhhicjjcmdaaOpen2
import Derived.Test.YtdhnhhicjjcmdaaTeamR
import Derived.Test.YtdhnhhicjjcmdaaJudgeR
import Derived.BigQuiet
import Derived.Deep.Quiet
namespace Go.Proofs.Ytdhnhhicjjcmdaa
open Go.ChangeShapes Go.WideShapes Go.ChangeAt Go.RowKit
set_option maxRecDepth 100000
theorem nwc {w w' : World} {p : Addr} {v : Value} (r : Below w.heap.size w w') (h : w.cell? p = some v) : w'.cell? p = some v := (r.cell (p := p) (cell_lt h)).trans h
theorem isId_n {w : World} {a : Int} : Calls Try.prog 53 #[.int .i64 a] w (fun e w' => e = .returned (.bool (inr a 1 99)) ∧ w = w') := by
  go_enter Try.func53, Try.ntmps53
  go_wp2_with fail
  refine (inRange_any _ _ _ _).mono ?_
  rintro e w1 ⟨rfl, rfl⟩
  go_wp2_with fail
  go_ret
  exact ⟨rfl, rfl⟩
end Go.Proofs.Ytdhnhhicjjcmdaa
