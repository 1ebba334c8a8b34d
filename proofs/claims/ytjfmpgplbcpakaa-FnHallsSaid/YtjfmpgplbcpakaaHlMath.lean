/- What FnHalls says of valid hearers: sums of moves and gains, the winner. No conditions. -/
import Derived.Test.YtjfmpgplbcpakaaHalMath
namespace Go.Proofs.Ytjfmpgplbcpakaa
open Go.ChangeShapes Go.WideShapes Go.ChangeAt Go.RowKit
theorem hr_all {X : List T2} (h : hrB X = true) : X.all hrOk = true ∧ X.length ≤ 100 := by
  unfold hrB at h
  rw [Bool.and_eq_true] at h
  exact ⟨h.1, of_decide_eq_true h.2⟩
theorem hr_cases {p : T2} (h : hrOk p = true) : (p.1 = 0 ∨ p.1 = 1 ∨ p.1 = 2) ∧ (p.2 = 0 ∨ p.2 = 1 ∨ p.2 = 2) := by
  unfold hrOk inr at h
  simp only [Bool.and_eq_true, decide_eq_true_eq] at h
  omega
/-- Moves from a to the opinions below b. -/
def rowN (X : List T2) (a : Int) : Nat → Nat
  | 0 => 0
  | b + 1 => rowN X a b + movN X a b
/-- Moves from the opinions below a. -/
def allN (X : List T2) : Nat → Nat
  | 0 => 0
  | a + 1 => allN X a + rowN X a 3
theorem mov_le (X : List T2) (a b : Int) : movN X a b ≤ X.length := List.countP_le_length
theorem row_le (X : List T2) (a : Int) : ∀ b, rowN X a b ≤ b * X.length
  | 0 => by simp [rowN]
  | b + 1 => by
    have := row_le X a b
    have := mov_le X a b
    rw [rowN, Nat.succ_mul]; omega
theorem all_le (X : List T2) : ∀ a, allN X a ≤ a * (3 * X.length)
  | 0 => by simp [allN]
  | a + 1 => by
    have := all_le X a
    have := row_le X a 3
    rw [allN, Nat.succ_mul]; omega
theorem nine (X : List T2) (h : X.all hrOk = true) : allN X 3 = X.length := by
  simp only [allN, rowN]
  unfold movN
  induction X with
  | nil => rfl
  | cons p X ih =>
    rw [List.all_cons, Bool.and_eq_true] at h
    have := ih h.2
    simp only [List.countP_cons, List.length_cons]
    obtain ⟨h1, h2⟩ := hr_cases h.1
    unfold mvF at this ⊢
    rcases h1 with e1 | e1 | e1 <;> rcases h2 with e2 | e2 | e2 <;> simp [e1, e2] at this ⊢ <;> omega
theorem gain0 (X : List T2) (h : X.all hrOk = true) : gaiI X 0 + gaiI X 1 + gaiI X 2 = 0 := by
  unfold gaiI aftN befN
  induction X with
  | nil => rfl
  | cons p X ih =>
    rw [List.all_cons, Bool.and_eq_true] at h
    have := ih h.2
    simp only [List.countP_cons]
    obtain ⟨h1, h2⟩ := hr_cases h.1
    unfold afF beF at this ⊢
    rcases h1 with e1 | e1 | e1 <;> rcases h2 with e2 | e2 | e2 <;> simp [e1, e2] at this ⊢ <;> omega
theorem stay (X : List T2) (h : X.all hrOk = true) : movN X 0 0 + movN X 1 1 + movN X 2 2 = unmN X := by
  unfold movN unmN
  induction X with
  | nil => rfl
  | cons p X ih =>
    rw [List.all_cons, Bool.and_eq_true] at h
    have := ih h.2
    simp only [List.countP_cons]
    obtain ⟨h1, h2⟩ := hr_cases h.1
    unfold mvF unF at this ⊢
    rcases h1 with e1 | e1 | e1 <;> rcases h2 with e2 | e2 | e2 <;> simp [e1, e2] at this ⊢ <;> omega
theorem gai_b (X : List T2) (s : Int) : -(X.length : Int) ≤ gaiI X s ∧ gaiI X s ≤ X.length := by
  unfold gaiI
  have h1 : aftN X s ≤ X.length := List.countP_le_length
  have h2 : befN X s ≤ X.length := List.countP_le_length
  omega
theorem unm_le (X : List T2) : unmN X ≤ X.length := List.countP_le_length
theorem hal_1 {X : List T2} (h : hrB X = true) (h2 : gaiI X 2 < gaiI X 1) : halN X = 1 := by
  unfold halN morI
  rw [h, if_pos rfl, if_pos h2]; rfl
theorem hal_2 {X : List T2} (h : hrB X = true) (h2 : gaiI X 1 < gaiI X 2) : halN X = 2 := by
  unfold halN morI
  rw [h, if_pos rfl, if_neg (show ¬ gaiI X 2 < gaiI X 1 by omega), if_pos h2]; rfl
theorem hal_in (X : List T2) : 0 ≤ halN X ∧ halN X ≤ 2 := by
  have hm : ∀ a b, 0 ≤ morI a b ∧ morI a b ≤ 2 := fun a b => by unfold morI; split <;> (try split) <;> omega
  unfold halN
  split
  · split
    · exact hm _ _
    · exact hm _ _
  · omega
end Go.Proofs.Ytjfmpgplbcpakaa
