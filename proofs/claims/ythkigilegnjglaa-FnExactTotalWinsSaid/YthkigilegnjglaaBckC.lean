/- Contracts of slices.Backward at []int and of its closure. Condition: the slice has at most 2^40 elements. -/
import Derived.Test.YthkigilegnjglaaMg6
import Derived.Test.YthkigilegnjglaaOrdA
import Derived.RangeFuncNested
import Derived.RangeFuncBound
import Derived.RangeFuncCalls
import Derived.RangeFuncLeaves
import Derived.RangeFuncFrom
import Derived.Shelf.Abstract
import Derived.Shelf.RegionOpen
import Derived.OwnWalkIn
import Derived.TacticsInMore
import Derived.LoopNIn
import Derived.LoopIn
namespace Go.Proofs.Ythkigilegnjglaa
open Go.ChangeShapes Go.WideShapes Go.ChangeAt Go.RowKit Go.Shelf
attribute [local go_sem] Oper.semAt_some
set_option maxRecDepth 100000
/-- The places that have come when m are left. -/
def dnL (N m : Nat) : List Nat := ((List.range N).drop m).reverse
theorem dnL_all (N : Nat) : dnL N N = [] := by unfold dnL; rw [List.drop_of_length_le (by simp)]; rfl
theorem dnL_snoc {N j : Nat} (h : j < N) : dnL N j = dnL N (j + 1) ++ [j] := by
  unfold dnL
  rw [List.drop_eq_getElem_cons (by simpa using h), List.reverse_cons, List.getElem_range]
theorem dnL_len (N m : Nat) : (dnL N m).length = N - m := by unfold dnL; simp
theorem dnL_mem {N m j : Nat} : j ∈ dnL N m ↔ m ≤ j ∧ j < N := by
  unfold dnL
  rw [List.mem_reverse, List.mem_drop_iff_getElem]
  constructor
  · rintro ⟨k, hk, rfl⟩
    simp at hk
    simp
    omega
  · rintro ⟨h1, h2⟩
    exact ⟨j - m, by simp; omega, by simp; omega⟩
/-- What a round hands over. -/
abbrev encB (S : List Int) (j : Nat) : Array Value := #[.int .i64 (j : Int), .int .i64 (S.getD j 0)]
end Go.Proofs.Ythkigilegnjglaa
