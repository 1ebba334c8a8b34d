/- What an argument that is a slice of structs of two integers gives, over any program. No conditions. -/
import Derived.Test.YtdhnhhicjjcmdaaOpen3
import Derived.Test.YtdhnhhicjjcmdaaRow2
import Derived.Deep.Slices
import Derived.Lib.SmallJoins
namespace Go.Proofs.Ytdhnhhicjjcmdaa
open Go.ChangeShapes Go.WideShapes Go.ChangeAt Go.RowKit
theorem slice_open2 {H : Type} {enc : TypeId × Value → H} {P : Program} {W : World} {t e : TypeId} {f0 f1 : Field} {v : Value} {d : DataW H} {p : List MemPlace} {base : Nat} (ht : P.underlying t = some (.slice e)) (he : P.underlying e = some (.struct #[f0, f1])) (hc : P.cellsOf e = 2)
    (o0 : f0.offset = 0) (o1 : f1.offset = 1) (u0 : P.underlying f0.type = some (.int .i64)) (u1 : P.underlying f1.type = some (.int .i64))
    (c0 : P.cellsOf f0.type = 1) (c1 : P.cellsOf f1.type = 1)
    (hv : Value.okWide P W .any base t v) (h : DataW.Trod enc P W 0 (fun _ => true) true t v d p) :
    ∃ (A : Option Addr) (c : Nat) (X : List T2), v = .slice A X.length c ∧ Rd W W.heap.size A (t2s X) ∧ X.length ≤ c ∧ c ≤ maxLen ∧ ∀ x ∈ X, (IntKind.i64.min ≤ x.1 ∧ x.1 ≤ IntKind.i64.max) ∧ (IntKind.i64.min ≤ x.2 ∧ x.2 ≤ IntKind.i64.max) := by
  obtain ⟨A, n, c, rfl⟩ := okWide_slice ht hv
  obtain ⟨fuel, hf⟩ := h
  rcases Go.Deep.open_slice ht hf with ⟨e1, _⟩ | ⟨a, len, cap, m, k, D, Pl, e1, _, h1, h2, hm, _, hx⟩
  · simp [Value.cells] at e1
    obtain ⟨rfl, rfl, rfl⟩ := e1
    exact ⟨none, 0, [], rfl, Rd.nil, Nat.le_refl _, Nat.zero_le _, by simp⟩
  · simp [Value.cells] at e1
    obtain ⟨rfl, rfl, rfl⟩ := e1
    simp only [if_true] at hm
    have each : ∀ i, i < n → ∃ q : T2, W.cell? (a.add (i * 2)) = some (.int .i64 q.1) ∧ W.cell? (a.add (i * 2 + 1)) = some (.int .i64 q.2) ∧ (IntKind.i64.min ≤ q.1 ∧ q.1 ≤ IntKind.i64.max) ∧ (IntKind.i64.min ≤ q.2 ∧ q.2 ≤ IntKind.i64.max) := by
      intro i hi
      obtain ⟨cs', k1, k2⟩ := hx i (by omega)
      rw [hc] at k1
      obtain ⟨_, hlen, hcell⟩ := World.cells?_some k1
      obtain ⟨xs, j, _, _, _, hxl, hf⟩ := DataW.trod_struct he k2
      match cs', hlen with
      | [v0, v1], _ =>
        have e0 := hcell 0 (by omega)
        have e1 := hcell 1 (by omega)
        rw [add_two] at e0 e1
        match xs, hxl with
        | [y0, y1], _ =>
          have g0 := hf 0 f0 rfl
          have g1 := hf 1 f1 rfl
          simp [o0, o1, c0, c1] at g0 g1
          obtain ⟨z0, q0, _, w0⟩ := DataW.trod_int u0 g0
          obtain ⟨z1, q1, _, w1⟩ := DataW.trod_int u1 g1
          simp at q0 q1
          subst q0 q1
          exact ⟨(z0, z1), by simpa using e0, by simpa using e1, by simpa [Lit.wf] using w0, by simpa [Lit.wf] using w1⟩
    obtain ⟨X, hX, hp⟩ := list_of n each
    subst hX
    refine ⟨some a, c, X, rfl, fun j u hu => ?_, h1, h2, fun x hx => ?_⟩
    · have hj : j < X.length * 2 := by
        rcases Nat.lt_or_ge j (X.length * 2) with h' | h'
        · exact h'
        · rw [List.getElem?_eq_none (by rw [t2s_len]; exact h')] at hu; cases hu
      have hk : j / 2 < X.length := by omega
      obtain ⟨g0, g1⟩ := t2s_get X (j / 2) hk
      obtain ⟨p0, p1, _⟩ := hp (j / 2) hk
      have hcu : W.cell? (a.add j) = some u := by
        have hj3 : j = j / 2 * 2 ∨ j = j / 2 * 2 + 1 := by omega
        rcases hj3 with hj3 | hj3
        · rw [hj3, g0] at hu
          rw [hj3, p0]
          exact hu
        · rw [hj3, g1] at hu
          rw [hj3, p1]
          exact hu
      refine ⟨a, rfl, ?_, hcu⟩
      have := cell_lt hcu
      rwa [add_blk] at this
    · obtain ⟨i, hi, rfl⟩ := List.getElem_of_mem hx
      exact (hp i hi).2.2
theorem struct_open2 {H : Type} {enc : TypeId × Value → H} {P : Program} {W : World} {t : TypeId} {f0 f1 : Field} {v : Value} {d : DataW H} {p : List MemPlace} {base : Nat} (ht : P.underlying t = some (.struct #[f0, f1])) (hone : Go.Deep.oneCellFields P #[f0, f1] = true) (hc : P.cellsOf t = 2)
    (u0 : P.underlying f0.type = some (.int .i64)) (u1 : P.underlying f1.type = some (.int .i64))
    (hv : Value.okWide P W .any base t v) (h : DataW.Trod enc P W 0 (fun _ => true) true t v d p) :
    ∃ x : T2, v = .agg #[.int .i64 x.1, .int .i64 x.2] ∧ (IntKind.i64.min ≤ x.1 ∧ x.1 ≤ IntKind.i64.max) ∧ (IntKind.i64.min ≤ x.2 ∧ x.2 ≤ IntKind.i64.max) := by
  obtain ⟨v0, v1, y0, y1, n, rfl, _, _, g0, g1⟩ := Go.Joins.open_agg2 ht hone hc hv h
  obtain ⟨z0, q0, _, w0⟩ := DataW.trod_int u0 g0
  obtain ⟨z1, q1, _, w1⟩ := DataW.trod_int u1 g1
  simp at q0 q1
  subst q0 q1
  exact ⟨(z0, z1), rfl, by simpa [Lit.wf] using w0, by simpa [Lit.wf] using w1⟩
end Go.Proofs.Ytdhnhhicjjcmdaa
