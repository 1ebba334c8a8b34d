/- Contracts of the models of chapter 6: Grounded, RoundOf, IsComplete. No conditions but that the slices have at most 2^40 elements. -/
import Derived.Test.YtncndlojceiejaaMg7
import Derived.Test.YtncndlojceiejaaEqI
namespace Go.Proofs.Ytncndlojceiejaa
open Go.ChangeShapes Go.WideShapes Go.ChangeAt Go.RowKit
set_option maxRecDepth 100000
def slen : Value → Nat
  | .slice _ n _ => n
  | _ => 0
theorem it_len10 (N : Int) (X : List (List Int)) (k : Nat) : (itS N X k).length ≤ 10 := by
  cases hg : gB N X with
  | true =>
    obtain ⟨n, rfl, hn, _, _⟩ := gB_ok hg
    exact Nat.le_trans (it_len k) hn
  | false => rw [it_none hg]; simp
theorem it_grow' {N : Int} {X : List (List Int)} {k : Nat} (h : itS N X (k + 1) ≠ itS N X k) : (itS N X k).length < (itS N X (k + 1)).length := by
  cases hg : gB N X with
  | true =>
    obtain ⟨n, rfl, hn, hp, _⟩ := gB_ok hg
    exact it_grow hg hp h
  | false => exact absurd (by rw [it_none hg, it_none hg]) h
theorem it_fix' {N : Int} {X : List (List Int)} {k : Nat} (hgrow : ∀ j, j < k → itS N X (j + 1) ≠ itS N X j) (h : itS N X (k + 1) = itS N X k) : itS N X k = grd N X := by
  cases hg : gB N X with
  | true =>
    obtain ⟨n, rfl, _, _, _⟩ := gB_ok hg
    exact it_fix hg hgrow h
  | false => unfold grd; rw [it_none hg, it_none hg]
/-- Whether a set is complete. -/
def compB (N : Int) (X : List (List Int)) (S : List Int) : Bool := freeB N X S && decide (defL N X S = S)
theorem defL_len10 (N : Int) (X : List (List Int)) (S : List Int) : (defL N X S).length ≤ 10 := by
  cases hg : gB N X with
  | true =>
    obtain ⟨n, rfl, hn, _, _⟩ := gB_ok hg
    exact Nat.le_trans defL_len hn
  | false => rw [defL_none _ hg]; simp
end Go.Proofs.Ytncndlojceiejaa
