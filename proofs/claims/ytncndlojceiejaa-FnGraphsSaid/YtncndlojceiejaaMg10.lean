/- Contracts of the models of chapter 6: Grounded, RoundOf, IsComplete. No conditions but that the slices have at most 2^40 elements. -/
import Derived.Test.YtncndlojceiejaaMg7
import Derived.Test.YtncndlojceiejaaMg9
import Derived.RangeFuncNested
import Derived.RangeFuncBound
import Derived.RangeFuncCalls
import Derived.RangeFuncLeaves
import Derived.Shelf.Abstract
import Derived.Shelf.RegionOpen
import Derived.OwnWalkIn
import Derived.TacticsInMore
import Derived.LoopNIn
import Derived.LoopIn
import Derived.RangeFuncFrom
namespace Go.Proofs.Ytncndlojceiejaa
open Go.ChangeShapes Go.WideShapes Go.ChangeAt Go.RowKit
set_option maxRecDepth 100000
def slen : Value → Nat
  | .slice _ n _ => n
  | _ => 0
theorem it_len10 (N : Int) (X : List (List Int)) (k : Nat) : (itS N X k).length ≤ 10 := by
  cases hg : gB N X with
  | true =>
    obtain ⟨n, rfl, hn, _, _⟩ := gB_ok hg
    exact Nat.le_trans (it_len k) hn
  | false => rw [it_none hg]; simp
theorem it_grow' {N : Int} {X : List (List Int)} {k : Nat} (h : itS N X (k + 1) ≠ itS N X k) : (itS N X k).length < (itS N X (k + 1)).length := by
  cases hg : gB N X with
  | true =>
    obtain ⟨n, rfl, hn, hp, _⟩ := gB_ok hg
    exact it_grow hg hp h
  | false => exact absurd (by rw [it_none hg, it_none hg]) h
theorem it_fix' {N : Int} {X : List (List Int)} {k : Nat} (hgrow : ∀ j, j < k → itS N X (j + 1) ≠ itS N X j) (h : itS N X (k + 1) = itS N X k) : itS N X k = grd N X := by
  cases hg : gB N X with
  | true =>
    obtain ⟨n, rfl, _, _, _⟩ := gB_ok hg
    exact it_fix hg hgrow h
  | false => unfold grd; rw [it_none hg, it_none hg]
/-- Whether a set is complete. -/
def compB (N : Int) (X : List (List Int)) (S : List Int) : Bool := freeB N X S && decide (defL N X S = S)
theorem defL_len10 (N : Int) (X : List (List Int)) (S : List Int) : (defL N X S).length ≤ 10 := by
  cases hg : gB N X with
  | true =>
    obtain ⟨n, rfl, hn, _, _⟩ := gB_ok hg
    exact Nat.le_trans defL_len hn
  | false => rw [defL_none _ hg]; simp
end Go.Proofs.Ytncndlojceiejaa

/- Contracts of the code's rounds (an iterator) and grounded. Conditions: at most 10 claims, rows below 2^16. -/
namespace Go.Proofs.Ytncndlojceiejaa
open Go.ChangeShapes Go.WideShapes Go.ChangeAt Go.RowKit Go.Shelf
attribute [local go_sem] Oper.semAt_some
set_option maxRecDepth 100000
theorem grown_new {a w : World} (h : Below a.heap.size a w) (r : Option Nat) : a.grownBy w r := ⟨h.os, h.tape, h.output, h.size, fun i hi _ => h.block i hi⟩
theorem itS_many (N : Int) (X : List (List Int)) : ∀ k, (∀ j, j < k → itS N X (j + 1) ≠ itS N X j) → k ≤ (itS N X k).length
  | 0, _ => Nat.zero_le _
  | k + 1, h => by
    have ih := itS_many N X k (fun j hj => h j (by omega))
    have := it_grow' (h k (by omega))
    omega
/-- After how many rounds nothing changes. -/
theorem stop_ex (N : Int) (X : List (List Int)) : ∃ K, K ≤ 10 ∧ itB (rn N X) (rf N X) (K + 1) = itB (rn N X) (rf N X) K ∧ ∀ j, j < K → itB (rn N X) (rf N X) (j + 1) ≠ itB (rn N X) (rf N X) j := by
  have key : ∀ k, (∃ K, K < k ∧ itS N X (K + 1) = itS N X K ∧ ∀ j, j < K → itS N X (j + 1) ≠ itS N X j) ∨ ∀ j, j < k → itS N X (j + 1) ≠ itS N X j := by
    intro k
    induction k with
    | zero => exact .inr fun j hj => absurd hj (by omega)
    | succ k ih =>
      rcases ih with ⟨K, h1, h2, h3⟩ | h
      · exact .inl ⟨K, by omega, h2, h3⟩
      · by_cases e : itS N X (k + 1) = itS N X k
        · exact .inl ⟨k, by omega, e, h⟩
        · refine .inr fun j hj => ?_
          rcases Nat.lt_succ_iff_lt_or_eq.1 hj with h1 | rfl
          · exact h j h1
          · exact e
  rcases key 11 with ⟨K, h1, h2, h3⟩ | h
  · exact ⟨K, by omega, (itB_eq N X _ _).2 h2, fun j hj e => h3 j hj ((itB_eq N X _ _).1 e)⟩
  · have := itS_many N X 11 h
    have := it_len10 N X 11
    omega
/-- What a round hands over. -/
abbrev encR (m : Int) (f : Nat → Nat) (k : Nat) : Array Value := #[.int .i64 ((k : Int) + 1), .int .u16 (itB m f (k + 1) : Nat)]
theorem itB_lt {m : Int} (h : m ≤ 10) (f : Nat → Nat) : ∀ k, itB m f k < 1024
  | 0 => by simp [itB]
  | k + 1 => dB_lt h f _
end Go.Proofs.Ytncndlojceiejaa

/- Contracts of the code's grounded, Grounded. Conditions: at most 10 claims, rows below 2^16. -/
namespace Go.Proofs.Ytncndlojceiejaa
open Go.ChangeShapes Go.WideShapes Go.ChangeAt Go.RowKit Go.Shelf
attribute [local go_sem] Oper.semAt_some
set_option maxRecDepth 100000
/-- A block lies as it lay. -/
def KeepB (Bn : Nat) (W W' : World) : Prop := W'.heap[Bn]? = W.heap[Bn]?
theorem keepB_t {Bn : Nat} : ∀ {A B C : World}, KeepB Bn A B → KeepB Bn B C → KeepB Bn A C := fun h k => Eq.trans k h
theorem keepB_b {Bn : Nat} {w : World} (h : Bn < w.heap.size) : ∀ (W : World) (l : Nat) (o o' : Obj), w.heap.size ≤ l → W.heap[l]? = some o → o.isCells = false → o.isWalk = false → KeepB Bn W (W.putObj l o') := fun W l o o' hl ho _ _ => by
  have hlt : l < W.heap.size := (Array.getElem?_eq_some_iff.1 ho).1
  exact (grownBy_putObj' W l o').block Bn (by omega) (by simp; omega)
/-- The last round that has come. -/
def endK (pre : List Nat) : Nat := match pre.getLast? with | none => 0 | some x => x + 1
theorem endK_snoc (pre : List Nat) (x : Nat) : endK (pre ++ [x]) = x + 1 := by simp [endK]
theorem endK_range (K : Nat) : endK (List.range K) = K := by
  cases K with
  | zero => rfl
  | succ K => rw [List.range_succ, endK_snoc]
theorem one_made (w : World) (v : Value) (t : TypeId) : (w.alloc (Obj.cells #[v] t)).cell? ⟨w.heap.size, 0, none⟩ = some v ∧ (w.alloc (Obj.cells #[v] t)).frozen? ⟨w.heap.size, 0, none⟩ = false := by
  have h := Bx.made w t #[v]
  exact ⟨h.at_ rfl, h.free 0⟩
end Go.Proofs.Ytncndlojceiejaa
