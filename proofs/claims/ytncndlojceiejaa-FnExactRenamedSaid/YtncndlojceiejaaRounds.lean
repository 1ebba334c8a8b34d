/- Contracts of the code's rounds (an iterator) and grounded. Conditions: at most 10 claims, rows below 2^16. -/
import Derived.Test.YtncndlojceiejaaFreeC
import Derived.Test.YtncndlojceiejaaGroundM
import Derived.RangeFuncNested
import Derived.RangeFuncBound
import Derived.RangeFuncCalls
import Derived.RangeFuncLeaves
import Derived.Shelf.Abstract
import Derived.Shelf.RegionOpen
import Derived.OwnWalkIn
import Derived.TacticsInMore
import Derived.LoopNIn
import Derived.LoopIn
namespace Go.Proofs.Ytncndlojceiejaa
open Go.ChangeShapes Go.WideShapes Go.ChangeAt Go.RowKit Go.Shelf
attribute [local go_sem] Oper.semAt_some
set_option maxRecDepth 100000
theorem grown_new {a w : World} (h : Below a.heap.size a w) (r : Option Nat) : a.grownBy w r := ⟨h.os, h.tape, h.output, h.size, fun i hi _ => h.block i hi⟩
theorem itS_many (N : Int) (X : List (List Int)) : ∀ k, (∀ j, j < k → itS N X (j + 1) ≠ itS N X j) → k ≤ (itS N X k).length
  | 0, _ => Nat.zero_le _
  | k + 1, h => by
    have ih := itS_many N X k (fun j hj => h j (by omega))
    have := it_grow' (h k (by omega))
    omega
/-- After how many rounds nothing changes. -/
theorem stop_ex (N : Int) (X : List (List Int)) : ∃ K, K ≤ 10 ∧ itB (rn N X) (rf N X) (K + 1) = itB (rn N X) (rf N X) K ∧ ∀ j, j < K → itB (rn N X) (rf N X) (j + 1) ≠ itB (rn N X) (rf N X) j := by
  have key : ∀ k, (∃ K, K < k ∧ itS N X (K + 1) = itS N X K ∧ ∀ j, j < K → itS N X (j + 1) ≠ itS N X j) ∨ ∀ j, j < k → itS N X (j + 1) ≠ itS N X j := by
    intro k
    induction k with
    | zero => exact .inr fun j hj => absurd hj (by omega)
    | succ k ih =>
      rcases ih with ⟨K, h1, h2, h3⟩ | h
      · exact .inl ⟨K, by omega, h2, h3⟩
      · by_cases e : itS N X (k + 1) = itS N X k
        · exact .inl ⟨k, by omega, e, h⟩
        · refine .inr fun j hj => ?_
          rcases Nat.lt_succ_iff_lt_or_eq.1 hj with h1 | rfl
          · exact h j h1
          · exact e
  rcases key 11 with ⟨K, h1, h2, h3⟩ | h
  · exact ⟨K, by omega, (itB_eq N X _ _).2 h2, fun j hj e => h3 j hj ((itB_eq N X _ _).1 e)⟩
  · have := itS_many N X 11 h
    have := it_len10 N X 11
    omega
/-- What a round hands over. -/
abbrev encR (m : Int) (f : Nat → Nat) (k : Nat) : Array Value := #[.int .i64 ((k : Int) + 1), .int .u16 (itB m f (k + 1) : Nat)]
theorem itB_lt {m : Int} (h : m ≤ 10) (f : Nat → Nat) : ∀ k, itB m f k < 1024
  | 0 => by simp [itB]
  | k + 1 => dB_lt h f _
end Go.Proofs.Ytncndlojceiejaa
