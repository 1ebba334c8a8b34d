/- Contracts of the models of chapter 11: l11All, l11Ok, CanHold, Follows, AreAlike, FirstRow, IsAlways. Condition: the slices have at most 2^40 elements. -/
import Derived.Test.YtignchefkihdaaaDoorTabM
import Derived.Test.YtignchefkihdaaaDoorMg5
namespace Go.Proofs.YtignchefkihdaaaDoor
open Go.ChangeShapes Go.WideShapes Go.ChangeAt Go.RowKit
set_option maxRecDepth 100000
theorem all_take {α : Type} {p : α → Bool} {X : List α} {k : Nat} (hk : k < X.length) (h : (X.take k).all p = true) (hx : p X[k] = true) : (X.take (k + 1)).all p = true := by
  rw [List.take_succ_eq_append_getElem hk, List.all_append, h]; simp [hx]
theorem all_bad {α : Type} {p : α → Bool} {X : List α} {k : Nat} (hk : k < X.length) (hx : p X[k] = false) : X.all p = false := by
  cases h : X.all p with
  | false => rfl
  | true => rw [List.all_eq_true.1 h _ (List.getElem_mem hk)] at hx; cases hx
end Go.Proofs.YtignchefkihdaaaDoor
