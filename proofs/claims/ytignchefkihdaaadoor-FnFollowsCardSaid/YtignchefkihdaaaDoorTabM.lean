/- Contracts of the models of chapter 11: l11Row, CountRows. Condition: the slice has at most 2^40 elements. -/
import Derived.Test.YtignchefkihdaaaDoorTabMath
import Derived.Test.YtignchefkihdaaaDoorMg9
import Derived.Test.YtignchefkihdaaaDoorMg4
import Derived.Test.YtignchefkihdaaaDoorMg2
import Derived.Test.YtignchefkihdaaaDoorMg6
namespace Go.Proofs.YtignchefkihdaaaDoor
open Go.ChangeShapes Go.WideShapes Go.ChangeAt Go.RowKit
set_option maxRecDepth 100000
theorem bit_row : ∀ (m : Fin 64) (k : Fin 6), (bits .and .i64 (((m.val : Nat) : Int) / 2 ^ k.val) 1 == 1) = m.val.testBit k.val := by decide +kernel
theorem rowR_snoc (m : Nat) {k : Nat} (hk : k < 6) : (rowR m).take (k + 1) = (rowR m).take k ++ [m.testBit k] := by
  have h : k < (rowR m).length := by rw [rowR_len]; exact hk
  rw [List.take_succ_eq_append_getElem h]
  congr 2
  simp [rowR]
theorem cnt_snoc (f : List Int) (m : Nat) : ((List.range (m + 1)).filter (valR f)).length = ((List.range m).filter (valR f)).length + if valR f m then 1 else 0 := by
  rw [List.range_succ, List.filter_append, List.length_append]
  cases h : valR f m <;> simp [h]
end Go.Proofs.YtignchefkihdaaaDoor
