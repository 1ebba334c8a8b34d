/- Contracts of the models of chapter 14: IsSlot, Speak, LeftOf, OverBy, TotalUsed. Condition: the slice has at most 2^20 elements. -/
import Derived.Test.YtignchefkihdaaaSlotA
import Derived.Test.YtignchefkihdaaaClkMath
import Derived.Test.YtignchefkihdaaaInts
namespace Go.Proofs.Ytignchefkihdaaa
open Go.ChangeShapes Go.WideShapes Go.ChangeAt Go.RowKit
set_option maxRecDepth 100000
theorem alloc_new' (w : World) (o : Obj) : Below w.heap.size w (w.alloc o) := (Below.refl _ _).alloc (Nat.le_refl _) o
theorem tot_snoc (X : List T3) (w : Int) {k : Nat} (hk : k < X.length) : totN (X.take (k + 1)) w = totN (X.take k) w + totP w X[k] := by
  unfold totN
  rw [List.take_succ_eq_append_getElem hk, List.foldl_append]
  rfl
end Go.Proofs.Ytignchefkihdaaa
