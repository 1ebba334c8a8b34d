/- Mathematics of valid judges (juB). No conditions. -/
import Derived.Test.YthkigilegnjglaaMg5
import Derived.Test.YthkigilegnjglaaJudgeR
namespace Go.Proofs.Ythkigilegnjglaa
open Go.ChangeShapes Go.WideShapes Go.ChangeAt Go.RowKit
def juIds (X : List Jd) : List Int := X.map Jd.id
def juOk (x : Jd) : Bool := inr x.club 1 99 && ascB x.seen
def juB (X : List Jd) : Bool := ascB (juIds X) && (X.all juOk && decide (X.length ≤ 10))
/-- What the model looks at, at k. -/
def juAt (X : List Jd) (k : Nat) : Bool := match X[k]? with | none => false | some p => ascAt (juIds X) k && juOk p
theorem juAt_at {X : List Jd} {k : Nat} (h : k < X.length) : juAt X k = (ascAt (juIds X) k && juOk X[k]) := by unfold juAt; rw [List.getElem?_eq_getElem h]
theorem juAt_a {X : List Jd} {k : Nat} {x : Jd} (h : juAt X k = (ascAt (juIds X) k && juOk x)) (h1 : ascAt (juIds X) k = false) : juAt X k = false := by rw [h, h1, Bool.false_and]
theorem juAt_c {X : List Jd} {k : Nat} {x : Jd} (h : juAt X k = (ascAt (juIds X) k && juOk x)) (h1 : inr x.club 1 99 = false) : juAt X k = false := by rw [h]; unfold juOk; rw [h1, Bool.false_and, Bool.and_false]
theorem juAt_s {X : List Jd} {k : Nat} {x : Jd} (h : juAt X k = (ascAt (juIds X) k && juOk x)) (h1 : ascB x.seen = false) : juAt X k = false := by rw [h]; unfold juOk; rw [h1, Bool.and_false, Bool.and_false]
theorem juAt_y {X : List Jd} {k : Nat} {x : Jd} (h : juAt X k = (ascAt (juIds X) k && juOk x)) (h1 : ascAt (juIds X) k = true) (h2 : inr x.club 1 99 = true) (h3 : ascB x.seen = true) : juAt X k = true := by rw [h]; unfold juOk; rw [h1, h2, h3]; rfl
theorem ju_all {X : List Jd} {n : Nat} (hl : X.length = n) (h : (List.range n).all (juAt X) = true) : juB X = decide (n ≤ 10) := by
  have h1 : ∀ k (hk : k < X.length), (ascAt (juIds X) k && juOk X[k]) = true := fun k hk => by
    have := List.all_eq_true.1 h k (List.mem_range.2 (by omega))
    rw [juAt_at hk] at this
    exact this
  have h2 : ascB (juIds X) = true := by
    unfold ascB
    rw [List.all_eq_true]
    intro k hk
    have := h1 k (by have := List.mem_range.1 hk; unfold juIds at this; simp at this; omega)
    exact (Bool.and_eq_true_iff.1 this).1
  have h3 : X.all juOk = true := by
    rw [List.all_eq_true]
    intro x hx
    obtain ⟨k, hk, rfl⟩ := List.getElem_of_mem hx
    exact (Bool.and_eq_true_iff.1 (h1 k hk)).2
  unfold juB
  rw [h2, h3, hl, Bool.true_and, Bool.true_and]
theorem ju_no {X : List Jd} {k : Nat} (hk : k < X.length) (h : juAt X k = false) : juB X = false := by
  rw [juAt_at hk] at h
  rcases Bool.and_eq_false_iff.1 h with h | h
  · unfold juB
    rw [asc_no (by unfold juIds; simpa using hk) h, Bool.false_and]
  · unfold juB
    have : X.all juOk = false := by rw [List.all_eq_false]; exact ⟨X[k], List.getElem_mem _, by simp [h]⟩
    rw [this, Bool.false_and, Bool.and_false]
theorem ju_snoc {X : List Jd} {k : Nat} (h : (List.range k).all (juAt X) = true) (h2 : juAt X k = true) : (List.range (k + 1)).all (juAt X) = true := by
  rw [List.range_succ, List.all_append, h, List.all_cons, h2]
  rfl
theorem ju_big {X : List Jd} (h : 10 < X.length) : juB X = false := by
  unfold juB
  rw [decide_eq_false (show ¬ X.length ≤ 10 by omega), Bool.and_false, Bool.and_false]
theorem ju_noasc {X : List Jd} (h : ascB (juIds X) = false) : juB X = false := by unfold juB; rw [h, Bool.false_and]
theorem ju_noseat {X : List Jd} {k : Nat} (hk : k < X.length) (h : juOk X[k] = false) : juB X = false := by
  unfold juB
  have : X.all juOk = false := by rw [List.all_eq_false]; exact ⟨X[k], List.getElem_mem _, by simp [h]⟩
  rw [this, Bool.false_and, Bool.and_false]
theorem ju_yes {X : List Jd} (h1 : ascB (juIds X) = true) (h2 : (X.take X.length).all juOk = true) (h3 : X.length ≤ 10) : juB X = true := by
  unfold juB
  rw [List.take_of_length_le (Nat.le_refl _)] at h2
  rw [h1, h2, decide_eq_true h3]; rfl
theorem ju_allsnoc {X : List Jd} {k : Nat} (h : (X.take k).all juOk = true) (hk : k < X.length) (h2 : juOk X[k] = true) : (X.take (k + 1)).all juOk = true := by
  rw [List.take_succ_eq_append_getElem hk, List.all_append, h, List.all_cons, h2]
  rfl
theorem juOk_c {x : Jd} (h : inr x.club 1 99 = false) : juOk x = false := by unfold juOk; rw [h, Bool.false_and]
theorem juOk_s {x : Jd} (h : ascB x.seen = false) : juOk x = false := by unfold juOk; rw [h, Bool.and_false]
theorem juOk_y {x : Jd} (h : inr x.club 1 99 = true) (h2 : ascB x.seen = true) : juOk x = true := by unfold juOk; rw [h, h2]; rfl
theorem ju_len {X : List Jd} (h : juB X = true) : X.length ≤ 10 := by
  unfold juB at h
  rw [Bool.and_eq_true, Bool.and_eq_true] at h
  exact of_decide_eq_true h.2.2
theorem ju_asc {X : List Jd} (h : juB X = true) : ascB (juIds X) = true := by
  unfold juB at h
  rw [Bool.and_eq_true] at h
  exact h.1
theorem juD {X : List Jd} {k : Nat} (hk : k < X.length) : (juIds X).getD k 0 = X[k].id := by
  have : k < (juIds X).length := by unfold juIds; simpa using hk
  rw [ascD this]; simp [juIds]
end Go.Proofs.Ythkigilegnjglaa
