/- Contract of the model of IsStable. No conditions but that the slices have at most 2^40 elements. -/
import Derived.Test.YtncndlojceiejaaFreeM2
namespace Go.Proofs.Ytncndlojceiejaa
open Go.ChangeShapes Go.WideShapes Go.ChangeAt Go.RowKit
set_option maxRecDepth 100000
def outP (N : Int) (X : List (List Int)) (S : List Int) (k : Nat) : Bool := !(S.contains (k : Int)) && !((hit N X S).contains (k : Int))
/-- Whether a set is stable. -/
def stabB (N : Int) (X : List (List Int)) (S : List Int) : Bool := !(setB N X S && (List.range N.toNat).any (outP N X S)) && freeB N X S
theorem range_any {f : Nat → Bool} {k : Nat} : (List.range (k + 1)).any f = ((List.range k).any f || f k) := by
  rw [List.range_succ, List.any_append]; simp
end Go.Proofs.Ytncndlojceiejaa
