/- What arguments of a law give that are slices of slices of integers, or graphs. No conditions but the statement's own. -/
import Derived.Test.YteffhbboeacogaaGraph
import Derived.Deep.Matrix
import Derived.Lib.SmallJoins
namespace Go.Proofs.Yteffhbboeacogaa
open Go.ChangeShapes Go.WideShapes Go.ChangeAt Go.RowKit
theorem rows_open {H : Type} {enc : TypeId × Value → H} {P : Program} {W : World} {t e q : TypeId} {fuel : Nat} {v : Value} {x : DataW H × List MemPlace} (ht : P.underlying t = some (.slice e)) (he : P.underlying e = some (.slice q)) (hq : P.underlying q = some (.int .i64))
    (ce : P.cellsOf e = 1) (cq : P.cellsOf q = 1) (h : DataW.trod enc P W 0 (fun _ => true) true fuel t [v] = some x) :
    ∃ (A : Option Addr) (c : Nat) (X : List (List Int)), v = .slice A X.length c ∧ RdSS W W.heap.size A X ∧ X.length ≤ c ∧ c ≤ maxLen ∧ ∀ y ∈ X, ∀ z ∈ y, -9223372036854775808 ≤ z ∧ z ≤ 9223372036854775807 := by
  rcases Go.Deep.open_int_rows ht he hq ce cq h with ⟨h1, _⟩ | ⟨a, len, cap, A, L, C, Z, h1, _, h3, h4, _, h6⟩
  · have : v = .slice none 0 0 := by simpa using h1
    exact ⟨none, 0, [], this, fun k x hx => by simp at hx, Nat.le_refl _, Nat.zero_le _, by simp⟩
  · have hv : v = .slice (some a) len cap := by simpa using h1
    subst hv
    refine ⟨some a, cap, (List.range len).map fun r => (Z r).take (L r), by simp, fun k y hy => ?_, by simpa using h3, h4, fun y hy z hz => ?_⟩
    · have hk : k < len := by
        have := (List.getElem?_eq_some_iff.1 hy).1
        simpa using this
      have hy2 : y = (Z k).take (L k) := by
        simp [hk] at hy
        exact hy.symm
      obtain ⟨g1, g2, g3, g4, g5, g6, g7⟩ := h6 k (by omega)
      have hlen : y.length = L k := by rw [hy2, List.length_take]; omega
      refine ⟨a, A k, C k, rfl, ?_, by rw [hlen]; exact g1, by omega, g3, fun j u hu => ?_⟩
      · have := cell_lt g1
        rwa [add_blk] at this
      · have hj : j < y.length := by
          rcases Nat.lt_or_ge j y.length with h' | h'
          · exact h'
          · rw [List.getElem?_eq_none (by rw [ivs_len]; exact h')] at hu; cases hu
        rw [ivs_get y j hj] at hu
        injection hu with hu
        have hjz : j < (Z k).length := by omega
        have hval : y[j] = (Z k).getD j 0 := by
          subst hy2
          simp [List.getD, List.getElem?_eq_getElem hjz]
        cases hA : A k with
        | none => have := g6 hA; omega
        | some a' =>
          have hc := (g7 a' hA).2 j (by omega)
          refine ⟨a', rfl, ?_, by rw [← hu, hval]; exact hc⟩
          have := cell_lt hc
          rwa [add_blk] at this
    · obtain ⟨k, hk, hk2⟩ := List.mem_map.1 hy
      rw [List.mem_range] at hk
      subst hk2
      have hw := (h6 k (by omega)).2.2.2.2.1 z (List.mem_of_mem_take hz)
      exact ⟨i64_lo hw, i64_hi hw⟩
end Go.Proofs.Yteffhbboeacogaa
