/- Mathematics of chapter 22: valid rooms (roB), their seats (seaI), the largest one (larP). No conditions. -/
import Derived.Test.YtjjgdeojbpcjjaaAscMath
import Derived.Test.YtjjgdeojbpcjjaaRow2
namespace Go.Proofs.Ytjjgdeojbpcjjaa
open Go.ChangeShapes Go.WideShapes Go.ChangeAt Go.RowKit
def roIds (X : List T2) : List Int := X.map (·.1)
def roOk (p : T2) : Bool := inr p.2 1 1000
def roB (X : List T2) : Bool := ascB (roIds X) && (X.all roOk && decide (X.length ≤ 20))
/-- What the model looks at, at k. -/
def roAt (X : List T2) (k : Nat) : Bool := match X[k]? with | none => false | some p => ascAt (roIds X) k && roOk p
theorem roAt_at {X : List T2} {k : Nat} (h : k < X.length) : roAt X k = (ascAt (roIds X) k && roOk X[k]) := by unfold roAt; rw [List.getElem?_eq_getElem h]
theorem ro_all {X : List T2} {n : Nat} (hl : X.length = n) (h : (List.range n).all (roAt X) = true) : roB X = decide (n ≤ 20) := by
  have h1 : ∀ k, k < n → (ascAt (roIds X) k && roOk (X.getD k (0, 0))) = true := fun k hk => by
    have := List.all_eq_true.1 h k (List.mem_range.2 hk)
    rw [roAt_at (by omega)] at this
    simpa [List.getD, List.getElem?_eq_getElem (show k < X.length by omega)] using this
  have h2 : ascB (roIds X) = true := by
    unfold ascB
    rw [List.all_eq_true]
    intro k hk
    have := h1 k (by have := List.mem_range.1 hk; unfold roIds at this; simp at this; omega)
    exact (Bool.and_eq_true_iff.1 this).1
  have h3 : X.all roOk = true := by
    rw [List.all_eq_true]
    intro x hx
    obtain ⟨k, hk, rfl⟩ := List.getElem_of_mem hx
    have := (Bool.and_eq_true_iff.1 (h1 k (by omega))).2
    simpa [List.getD, List.getElem?_eq_getElem hk] using this
  unfold roB
  rw [h2, h3, hl, Bool.true_and, Bool.true_and]
theorem ro_no {X : List T2} {k : Nat} (hk : k < X.length) (h : roAt X k = false) : roB X = false := by
  rw [roAt_at hk] at h
  rcases Bool.and_eq_false_iff.1 h with h | h
  · unfold roB
    rw [asc_no (by unfold roIds; simpa using hk) h, Bool.false_and]
  · unfold roB
    have : X.all roOk = false := by rw [List.all_eq_false]; exact ⟨X[k], List.getElem_mem _, by simp [h]⟩
    rw [this, Bool.false_and, Bool.and_false]
theorem ro_snoc {X : List T2} {k : Nat} (h : (List.range k).all (roAt X) = true) (h2 : roAt X k = true) : (List.range (k + 1)).all (roAt X) = true := by
  rw [List.range_succ, List.all_append, h, List.all_cons, h2]
  rfl
theorem ro_big {X : List T2} (h : 20 < X.length) : roB X = false := by
  unfold roB
  rw [decide_eq_false (show ¬ X.length ≤ 20 by omega), Bool.and_false, Bool.and_false]
theorem ro_noasc {X : List T2} (h : ascB (roIds X) = false) : roB X = false := by unfold roB; rw [h, Bool.false_and]
theorem ro_noseat {X : List T2} {k : Nat} (hk : k < X.length) (h : roOk X[k] = false) : roB X = false := by
  unfold roB
  have : X.all roOk = false := by rw [List.all_eq_false]; exact ⟨X[k], List.getElem_mem _, by simp [h]⟩
  rw [this, Bool.false_and, Bool.and_false]
theorem ro_yes {X : List T2} (h1 : ascB (roIds X) = true) (h2 : (X.take X.length).all roOk = true) (h3 : X.length ≤ 20) : roB X = true := by
  unfold roB
  rw [List.take_of_length_le (Nat.le_refl _)] at h2
  rw [h1, h2, decide_eq_true h3]; rfl
theorem ro_allsnoc {X : List T2} {k : Nat} (h : (X.take k).all roOk = true) (hk : k < X.length) (h2 : roOk X[k] = true) : (X.take (k + 1)).all roOk = true := by
  rw [List.take_succ_eq_append_getElem hk, List.all_append, h, List.all_cons, h2]
  rfl
theorem ro_parts {X : List T2} (h : roB X = true) : ascB (roIds X) = true ∧ (∀ x ∈ X, 1 ≤ x.2 ∧ x.2 ≤ 1000) ∧ X.length ≤ 20 := by
  unfold roB at h
  rw [Bool.and_eq_true, Bool.and_eq_true] at h
  refine ⟨h.1, fun x hx => ?_, of_decide_eq_true h.2.2⟩
  have := List.all_eq_true.1 h.2.1 x hx
  unfold roOk inr at this
  simpa using this
/-- The sum of the seats of the first k. -/
def seaS (X : List T2) (k : Nat) : Int := ((X.take k).map (·.2)).sum
theorem seaS_succ {X : List T2} {k : Nat} (h : k < X.length) : seaS X (k + 1) = seaS X k + X[k].2 := by
  unfold seaS
  rw [List.take_succ_eq_append_getElem h, List.map_append, List.sum_append]; simp
theorem seaS_in {X : List T2} (h : roB X = true) (k : Nat) (hk : k ≤ X.length) : 0 ≤ seaS X k ∧ seaS X k ≤ 1000 * (k : Int) := by
  induction k with
  | zero => simp [seaS]
  | succ k ih =>
    rw [seaS_succ (show k < X.length by omega)]
    have := ih (by omega)
    have h2 := (ro_parts h).2.1 X[k] (List.getElem_mem _)
    omega
def seaI (X : List T2) : Int := if roB X then seaS X X.length else 0
end Go.Proofs.Ytjjgdeojbpcjjaa
