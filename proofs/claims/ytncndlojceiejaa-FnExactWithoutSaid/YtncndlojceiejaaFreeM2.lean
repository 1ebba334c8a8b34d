/- Contracts of the models of chapter 5: DefendedBy, IsAdmissible, IsStable. No conditions but that the slices have at most 2^40 elements. -/
import Derived.Test.YtncndlojceiejaaFreeM
import Derived.Test.YtncndlojceiejaaMg3
namespace Go.Proofs.Ytncndlojceiejaa
open Go.ChangeShapes Go.WideShapes Go.ChangeAt Go.RowKit
set_option maxRecDepth 100000
def defT (N : Int) (X : List (List Int)) (S : List Int) (k : Nat) : List Int := ((List.range k).filter fun (j : Nat) => defB N X S j).map fun (j : Nat) => (j : Int)
/-- What a set defends. -/
def defL (N : Int) (X : List (List Int)) (S : List Int) : List Int := if setB N X S then defT N X S N.toNat else []
theorem defT_yes {N : Int} {X : List (List Int)} {S : List Int} {k : Nat} (h : defB N X S k = true) : defT N X S (k + 1) = defT N X S k ++ [(k : Int)] := by simp [defT, List.range_succ, h]
theorem defT_no {N : Int} {X : List (List Int)} {S : List Int} {k : Nat} (h : defB N X S k = false) : defT N X S (k + 1) = defT N X S k := by simp [defT, List.range_succ, h]
theorem defT_len (N : Int) (X : List (List Int)) (S : List Int) (k : Nat) : (defT N X S k).length ≤ k := by
  unfold defT
  rw [List.length_map]
  exact Nat.le_trans (List.length_filter_le _ _) (by simp)
theorem setB_g {N : Int} {X : List (List Int)} {S : List Int} (h : setB N X S = true) : gB N X = true := by
  unfold setB at h; rw [Bool.and_eq_true] at h; exact h.1
/-- Whether a set is admissible. -/
def admB (N : Int) (X : List (List Int)) (S : List Int) : Bool := !(S.any fun z => !(defB N X S z)) && freeB N X S
end Go.Proofs.Ytncndlojceiejaa
