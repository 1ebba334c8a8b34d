/- A slice of slices of integers that is only read, as a value: for the models' results. No conditions. -/
import Derived.Test.YteffhbboeacogaaIntSS
namespace Go.Proofs.Yteffhbboeacogaa
open Go.ChangeShapes Go.WideShapes Go.ChangeAt Go.RowKit
/-- The value is a slice that reads as X below block B. -/
def RdV (w : World) (B : Nat) (v : Value) (X : List (List Int)) : Prop := B ≤ w.heap.size ∧ ∃ A c, v = .slice A X.length c ∧ RdSS w B A X ∧ X.length ≤ c ∧ c ≤ maxLen
section
variable {w w' : World} {B lo hi : Nat} {v : Value} {X : List (List Int)}
theorem RdV.rd (h : RdV w B v X) {n : Nat} (hn : X.length = n) : ∃ A c, v = .slice A n c ∧ RdSS w B A X ∧ n ≤ c ∧ c ≤ maxLen := by
  subst hn
  exact h.2
theorem RdV.rd' {A : Option Addr} {n c : Nat} (h : RdV w B (.slice A n c) X) : RdSS w B A X := by
  obtain ⟨A', c', h1, h2, _, _⟩ := h.2
  injection h1 with e1 e2 e3
  subst e1
  exact h2
theorem RdV.new (h : RdV w B v X) (hb : Below w.heap.size w w') : RdV w' B v X := by
  obtain ⟨h0, A, c, h1, h2, h3⟩ := h
  exact ⟨Nat.le_trans h0 hb.size, A, c, h1, h2.below (hb.mono h0), h3⟩
theorem RdV.out (h : RdV w B v X) (o : Out lo hi w w') (hd : B ≤ lo ∨ B ≤ 0) : RdV w' B v X := by
  obtain ⟨h0, A, c, h1, h2, h3⟩ := h
  exact ⟨Nat.le_trans h0 o.size, A, c, h1, h2.below (o.below (by omega) h0), h3⟩
theorem RdV.of_own (h : OwnSS w lo w.heap.size v X) : RdV w w.heap.size v X := by
  obtain ⟨A, c, h1, h2, h3, h4⟩ := h.rd rfl
  exact ⟨Nat.le_refl _, A, c, h1, h2, h3, h4⟩
end
/-- What a model gives back: a slice of slices that reads as X. -/
def FreshRd (X : List (List Int)) (w : World) (e : Ending) (w' : World) : Prop := ∃ v, e = .returned v ∧ RdV w' w'.heap.size v X ∧ Below w.heap.size w w'
end Go.Proofs.Yteffhbboeacogaa
