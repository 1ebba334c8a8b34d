/- Contracts of the models of chapter 11: CanHold, Follows, AreAlike, FirstRow, IsAlways. Condition: the slices have at most 2^40 elements. -/
import Derived.Test.YtignchefkihdaaaDoorTabM2
namespace Go.Proofs.YtignchefkihdaaaDoor
open Go.ChangeShapes Go.WideShapes Go.ChangeAt Go.RowKit
set_option maxRecDepth 100000
theorem canR_row {X : List (List Int)} {m : Nat} (hok : okR X = true) (hm : m < 64) (h : allR X m = true) : canR X = true := by
  unfold canR
  rw [hok, Bool.true_and, List.any_eq_true]
  exact ⟨m, List.mem_range.2 hm, h⟩
theorem canR_none {X : List (List Int)} (h : ∀ j, j < 64 → allR X j = false) : canR X = false := by
  unfold canR
  have : (List.range 64).any (allR X) = false := by
    rw [List.any_eq_false]
    intro j hj
    rw [h j (List.mem_range.1 hj)]
    simp
  rw [this, Bool.and_false]
theorem lt_step {P : Nat → Prop} {m : Nat} (h : ∀ j, j < m → P j) (hm : P m) : ∀ j, j < m + 1 → P j := fun j hj => by
  by_cases e : j = m
  · subst e; exact hm
  · exact h j (by omega)
section
variable {w : World} {A A' : Option Addr} {n c n' c' : Nat} {X : List (List Int)} {f : List Int}
theorem folR_bad {m : Nat} (hm : m < 64) (h : allR X m = true) (hv : valR f m = false) : folR X f = false := by
  unfold folR
  have : ((List.range 64).all fun m => !(allR X m) || valR f m) = false := by
    refine all_bad (k := m) (by simpa using hm) ?_
    simp [h, hv]
  rw [this, Bool.and_false]
theorem folR_good (h : ∀ j, j < 64 → (allR X j = true → valR f j = true)) : folR X f = (okR X && isF f) := by
  unfold folR
  have : ((List.range 64).all fun m => !(allR X m) || valR f m) = true := by
    rw [List.all_eq_true]
    intro m hm
    have := h m (List.mem_range.1 hm)
    cases ha : allR X m with
    | false => rfl
    | true => rw [this ha]; rfl
  rw [this, Bool.and_true]
theorem alkR_bad {a b : List Int} {m : Nat} (hm : m < 64) (h : valR a m ≠ valR b m) : alkR a b = false := by
  unfold alkR
  have : ((List.range 64).all fun m => valR a m == valR b m) = false := by
    refine all_bad (k := m) (by simpa using hm) ?_
    simpa using h
  rw [this, Bool.and_false]
theorem alkR_good {a b : List Int} (h : ∀ j, j < 64 → valR a j = valR b j) : alkR a b = (isF a && isF b) := by
  unfold alkR
  have : ((List.range 64).all fun m => valR a m == valR b m) = true := by
    rw [List.all_eq_true]
    intro m hm
    simpa using h m (List.mem_range.1 hm)
  rw [this, Bool.and_true]
theorem fstR_at {m : Nat} (hm : m < 64) (h : valR f m = true) (hno : ∀ j, j < m → valR f j = false) : fstR f = (m : Int) := by
  have hf : (List.range 64).find? (valR f) = some m := by
    rw [List.find?_eq_some_iff_getElem]
    refine ⟨h, m, by simpa using hm, by simp, fun j hj => ?_⟩
    simp [hno j hj]
  unfold fstR
  rw [hf]
theorem fstR_no (hno : ∀ j, j < 64 → valR f j = false) : fstR f = -1 := by
  have hf : (List.range 64).find? (valR f) = none := List.find?_eq_none.2 fun m hm => by rw [hno m (List.mem_range.1 hm)]; simp
  unfold fstR
  rw [hf]
end
end Go.Proofs.YtignchefkihdaaaDoor
