/- Contract of the code's IsFormula. Condition: the slice has at most 2^40 elements. -/
import Derived.Test.YtignchefkihdaaaDoorMg9
namespace Go.Proofs.YtignchefkihdaaaDoor
open Go.ChangeShapes Go.WideShapes Go.ChangeAt Go.RowKit
set_option maxRecDepth 100000
theorem impIsFormula_any {w : World} {A : Option Addr} {n c : Nat} {f : List Int} (hl : Hid (f.length = n)) (hr : Rd w w.heap.size A (ivs f)) :
    Calls Tryd.prog 7 #[.slice A n c] w (Tells (isF f) w) := by
  go_enter Tryd.func7, Tryd.ntmps7
  go_wp2_with fail
  refine (treeOf_any (f := f) hl hr).mono ?_
  rintro e w1 ⟨rfl, hb⟩
  go_wp2_with fail
  go_ret
  exact ⟨rfl, hb⟩
end Go.Proofs.YtignchefkihdaaaDoor
