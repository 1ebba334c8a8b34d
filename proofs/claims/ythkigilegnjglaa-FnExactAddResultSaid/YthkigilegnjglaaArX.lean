/- What AddResult returns fits the law's measures (cutT). No conditions. -/
import Derived.Test.YthkigilegnjglaaArM
import Derived.Test.YthkigilegnjglaaMg9
namespace Go.Proofs.Ythkigilegnjglaa
open Go.ChangeShapes Go.WideShapes Go.ChangeAt Go.RowKit
/-- Z where X is as short as the law asks. -/
def cutT (X Z : List Tm) : List Tm := if X.length ≤ 1048576 ∧ psum (X.map Tm.met) X.length ≤ 1048576 then Z else []
theorem cutT_eq {X Z : List Tm} (h : X.length ≤ 1048576) (h2 : psum (X.map Tm.met) X.length ≤ 1048576) : cutT X Z = Z := if_pos ⟨h, h2⟩
theorem psum_le {m : Nat} {X : List (List Int)} (h : ∀ x ∈ X, x.length ≤ m) : ∀ k, k ≤ X.length → psum X k ≤ k * m
  | 0, _ => by rw [psum_zero]; omega
  | k + 1, hk => by
    have h1 := psum_le h k (by omega)
    have h2 := h X[k] (List.getElem_mem _)
    rw [psum_succ X k (by omega), Nat.succ_mul]
    omega
theorem te_meas {Z : List Tm} (h : atB Z = true) : Z.length ≤ 10 ∧ (∀ x ∈ Z, x.met.length ≤ 20) ∧ psum (Z.map Tm.met) Z.length ≤ 200 := by
  have h1 := te_len h
  have h2 : ∀ x ∈ Z, x.met.length ≤ 20 := fun x hx => by
    obtain ⟨k, hk, rfl⟩ := List.getElem_of_mem hx
    exact (te_b h (List.getElem?_eq_getElem hk)).1
  refine ⟨h1, h2, ?_⟩
  have h3 := psum_le (m := 20) (X := Z.map Tm.met) (fun x hx => by obtain ⟨y, hy, rfl⟩ := List.mem_map.1 hx; exact h2 y hy) Z.length (by simp)
  omega
theorem met_le {X : List Tm} (h2 : psum (X.map Tm.met) X.length ≤ 1048576) : ∀ x ∈ X, x.met.length ≤ 1048576 := fun x hx => by
  obtain ⟨i, hi, rfl⟩ := List.getElem_of_mem hx
  exact Nat.le_trans (Tm_mets_mem hi) h2
theorem cutT_meas {X Z : List Tm} (hz : Z = X ∨ atB Z = true) : (cutT X Z).length ≤ 14000000 ∧ (∀ x ∈ cutT X Z, x.met.length ≤ 1099511627776) ∧ psum ((cutT X Z).map Tm.met) (cutT X Z).length ≤ 140000000 := by
  by_cases h : X.length ≤ 1048576 ∧ psum (X.map Tm.met) X.length ≤ 1048576
  · rw [cutT_eq h.1 h.2]
    rcases hz with rfl | hz
    · exact ⟨by omega, fun x hx => by have := met_le h.2 x hx; omega, by omega⟩
    · obtain ⟨a1, a2, a3⟩ := te_meas hz
      exact ⟨by omega, fun x hx => by have := a2 x hx; omega, by omega⟩
  · have e : cutT X Z = [] := if_neg h
    rw [e]
    exact ⟨by simp, by simp, by simp [psum]⟩
theorem ars_or {X : List Tm} {a b wi p q : Int} : arsR X a b wi p q = X ∨ atB (arsR X a b wi p q) = true := by
  unfold arsR
  cases h : (arOk X a b wi p q && atB (arsZ X a b wi p q)) with
  | true => rw [if_pos rfl]; exact .inr (Bool.and_eq_true_iff.1 h).2
  | false => exact .inl rfl
end Go.Proofs.Ythkigilegnjglaa
