/- Contracts of the models l9Less and Without. Condition: the slices have at most 2^40 elements. -/
import Derived.Test.YtncndlojceiejaaDoorRenI
import Derived.Test.YtncndlojceiejaaDoorCopyM
import Derived.Test.YtncndlojceiejaaDoorMg5
namespace Go.Proofs.YtncndlojceiejaaDoor
open Go.ChangeShapes Go.WideShapes Go.ChangeAt Go.RowKit
set_option maxRecDepth 100000
theorem woX_yes {X : List (List Int)} {c : Int} {k : Nat} (hk : k < X.length) {p q : Int} (hx : X[k] = [p, q]) (h1 : p ≠ c) (h2 : q ≠ c) : woX (X.take (k + 1)) c = woX (X.take k) c ++ [[lesI p c, lesI q c]] := by
  unfold woX
  rw [filt_yes hk (by rw [hx]; simp [h1, h2]), List.map_append, hx]
  rfl
theorem woX_no {X : List (List Int)} {c : Int} {k : Nat} (hk : k < X.length) {p q : Int} (hx : X[k] = [p, q]) (h : p = c ∨ q = c) : woX (X.take (k + 1)) c = woX (X.take k) c := by
  unfold woX
  rw [filt_no hk (by rw [hx]; rcases h with h | h <;> simp [h])]
theorem woX_len (X : List (List Int)) (c : Int) (k : Nat) : (woX (X.take k) c).length ≤ k := by
  unfold woX
  rw [List.length_map]
  exact filt_len _ _ _
end Go.Proofs.YtncndlojceiejaaDoor
