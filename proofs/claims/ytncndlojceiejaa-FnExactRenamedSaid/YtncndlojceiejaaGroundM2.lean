/- Contract of the model of RoundOf. No conditions but that the slices have at most 2^40 elements. -/
import Derived.Test.YtncndlojceiejaaGroundM
namespace Go.Proofs.Ytncndlojceiejaa
open Go.ChangeShapes Go.WideShapes Go.ChangeAt Go.RowKit
set_option maxRecDepth 100000
def rndT (N : Int) (X : List (List Int)) (c : Int) : Nat → Nat → Int
  | 0, _ => -1
  | f + 1, k => if (itS N X (k + 1)).contains c then ((k + 1 : Nat) : Int) else rndT N X c f (k + 1)
/-- The step at which a claim stands; -1 if none. -/
def rnd (N : Int) (X : List (List Int)) (c : Int) : Int := if gB N X then rndT N X c N.toNat 0 else -1
end Go.Proofs.Ytncndlojceiejaa
