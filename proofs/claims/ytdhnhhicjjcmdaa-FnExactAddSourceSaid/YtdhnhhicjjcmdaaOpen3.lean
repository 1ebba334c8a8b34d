/- What an argument that is a slice of structs of three integers gives, over any program. No conditions. -/
import Derived.Test.YtdhnhhicjjcmdaaRow3
import Derived.Deep.Slices
import Derived.Lib.SmallJoins
namespace Go.Proofs.Ytdhnhhicjjcmdaa
open Go.ChangeShapes Go.WideShapes Go.ChangeAt Go.RowKit
theorem add_two (a : Addr) (j k : Nat) : (a.add j).add k = a.add (j + k) := by
  unfold Addr.add
  by_cases hj : j = 0 <;> by_cases hk : k = 0 <;> simp [hj, hk, Nat.add_assoc]
theorem list_of {α : Type} {p : Nat → α → Prop} : ∀ (n : Nat), (∀ i, i < n → ∃ x, p i x) → ∃ l : List α, l.length = n ∧ ∀ i (h : i < l.length), p i l[i]
  | 0, _ => ⟨[], rfl, fun i h => absurd h (Nat.not_lt_zero _)⟩
  | n + 1, h => by
    obtain ⟨l, hl, hp⟩ := list_of n fun i hi => h i (by omega)
    obtain ⟨x, hx⟩ := h n (by omega)
    refine ⟨l ++ [x], by simp [hl], fun i hi => ?_⟩
    by_cases hin : i < l.length
    · rw [List.getElem_append_left hin]; exact hp i hin
    · have : i = n := by simp at hi; omega
      subst this
      rw [List.getElem_append_right (by omega)]
      simpa using hx
theorem slice_open3 {H : Type} {enc : TypeId × Value → H} {P : Program} {W : World} {t e : TypeId} {f0 f1 f2 : Field} {v : Value} {d : DataW H} {p : List MemPlace} {base : Nat} (ht : P.underlying t = some (.slice e)) (he : P.underlying e = some (.struct #[f0, f1, f2])) (hc : P.cellsOf e = 3)
    (o0 : f0.offset = 0) (o1 : f1.offset = 1) (o2 : f2.offset = 2) (u0 : P.underlying f0.type = some (.int .i64)) (u1 : P.underlying f1.type = some (.int .i64)) (u2 : P.underlying f2.type = some (.int .i64))
    (c0 : P.cellsOf f0.type = 1) (c1 : P.cellsOf f1.type = 1) (c2 : P.cellsOf f2.type = 1)
    (hv : Value.okWide P W .any base t v) (h : DataW.Trod enc P W 0 (fun _ => true) true t v d p) :
    ∃ (A : Option Addr) (c : Nat) (X : List T3), v = .slice A X.length c ∧ Rd W W.heap.size A (t3s X) ∧ X.length ≤ c ∧ c ≤ maxLen ∧ ∀ x ∈ X, (IntKind.i64.min ≤ x.1 ∧ x.1 ≤ IntKind.i64.max) ∧ (IntKind.i64.min ≤ x.2.1 ∧ x.2.1 ≤ IntKind.i64.max) ∧ (IntKind.i64.min ≤ x.2.2 ∧ x.2.2 ≤ IntKind.i64.max) := by
  obtain ⟨A, n, c, rfl⟩ := okWide_slice ht hv
  obtain ⟨fuel, hf⟩ := h
  rcases Go.Deep.open_slice ht hf with ⟨e1, _⟩ | ⟨a, len, cap, m, k, D, Pl, e1, _, h1, h2, hm, _, hx⟩
  · simp [Value.cells] at e1
    obtain ⟨rfl, rfl, rfl⟩ := e1
    exact ⟨none, 0, [], rfl, Rd.nil, Nat.le_refl _, Nat.zero_le _, by simp⟩
  · simp [Value.cells] at e1
    obtain ⟨rfl, rfl, rfl⟩ := e1
    simp only [if_true] at hm
    have each : ∀ i, i < n → ∃ q : T3, W.cell? (a.add (i * 3)) = some (.int .i64 q.1) ∧ W.cell? (a.add (i * 3 + 1)) = some (.int .i64 q.2.1) ∧ W.cell? (a.add (i * 3 + 2)) = some (.int .i64 q.2.2) ∧ (IntKind.i64.min ≤ q.1 ∧ q.1 ≤ IntKind.i64.max) ∧ (IntKind.i64.min ≤ q.2.1 ∧ q.2.1 ≤ IntKind.i64.max) ∧ (IntKind.i64.min ≤ q.2.2 ∧ q.2.2 ≤ IntKind.i64.max) := by
      intro i hi
      obtain ⟨cs', k1, k2⟩ := hx i (by omega)
      rw [hc] at k1
      obtain ⟨_, hlen, hcell⟩ := World.cells?_some k1
      obtain ⟨xs, j, _, _, _, hxl, hf⟩ := DataW.trod_struct he k2
      match cs', hlen with
      | [v0, v1, v2], _ =>
        have e0 := hcell 0 (by omega)
        have e1 := hcell 1 (by omega)
        have e2 := hcell 2 (by omega)
        rw [add_two] at e0 e1 e2
        match xs, hxl with
        | [y0, y1, y2], _ =>
          have g0 := hf 0 f0 rfl
          have g1 := hf 1 f1 rfl
          have g2 := hf 2 f2 rfl
          simp [o0, o1, o2, c0, c1, c2] at g0 g1 g2
          obtain ⟨z0, q0, _, w0⟩ := DataW.trod_int u0 g0
          obtain ⟨z1, q1, _, w1⟩ := DataW.trod_int u1 g1
          obtain ⟨z2, q2, _, w2⟩ := DataW.trod_int u2 g2
          simp at q0 q1 q2
          subst q0 q1 q2
          exact ⟨(z0, z1, z2), by simpa using e0, by simpa using e1, by simpa using e2, by simpa [Lit.wf] using w0, by simpa [Lit.wf] using w1, by simpa [Lit.wf] using w2⟩
    obtain ⟨X, hX, hp⟩ := list_of n each
    subst hX
    refine ⟨some a, c, X, rfl, fun j u hu => ?_, h1, h2, fun x hx => ?_⟩
    · have hj : j < X.length * 3 := by
        rcases Nat.lt_or_ge j (X.length * 3) with h' | h'
        · exact h'
        · rw [List.getElem?_eq_none (by rw [t3s_len]; exact h')] at hu; cases hu
      have hk : j / 3 < X.length := by omega
      obtain ⟨g0, g1, g2⟩ := t3s_get X (j / 3) hk
      obtain ⟨p0, p1, p2, _⟩ := hp (j / 3) hk
      have hcu : W.cell? (a.add j) = some u := by
        have hj3 : j = j / 3 * 3 ∨ j = j / 3 * 3 + 1 ∨ j = j / 3 * 3 + 2 := by omega
        rcases hj3 with hj3 | hj3 | hj3
        · rw [hj3, g0] at hu
          rw [hj3, p0]
          exact hu
        · rw [hj3, g1] at hu
          rw [hj3, p1]
          exact hu
        · rw [hj3, g2] at hu
          rw [hj3, p2]
          exact hu
      refine ⟨a, rfl, ?_, hcu⟩
      have := cell_lt hcu
      rwa [add_blk] at this
    · obtain ⟨i, hi, rfl⟩ := List.getElem_of_mem hx
      exact (hp i hi).2.2.2
theorem struct_open3 {H : Type} {enc : TypeId × Value → H} {P : Program} {W : World} {t : TypeId} {f0 f1 f2 : Field} {v : Value} {d : DataW H} {p : List MemPlace} {base : Nat} (ht : P.underlying t = some (.struct #[f0, f1, f2])) (hone : Go.Deep.oneCellFields P #[f0, f1, f2] = true) (hc : P.cellsOf t = 3)
    (u0 : P.underlying f0.type = some (.int .i64)) (u1 : P.underlying f1.type = some (.int .i64)) (u2 : P.underlying f2.type = some (.int .i64))
    (hv : Value.okWide P W .any base t v) (h : DataW.Trod enc P W 0 (fun _ => true) true t v d p) :
    ∃ x : T3, v = .agg #[.int .i64 x.1, .int .i64 x.2.1, .int .i64 x.2.2] ∧ (IntKind.i64.min ≤ x.1 ∧ x.1 ≤ IntKind.i64.max) ∧ (IntKind.i64.min ≤ x.2.1 ∧ x.2.1 ≤ IntKind.i64.max) ∧ (IntKind.i64.min ≤ x.2.2 ∧ x.2.2 ≤ IntKind.i64.max) := by
  obtain ⟨v0, v1, v2, y0, y1, y2, n, rfl, _, _, g0, g1, g2⟩ := Go.Joins.open_agg3 ht hone hc hv h
  obtain ⟨z0, q0, _, w0⟩ := DataW.trod_int u0 g0
  obtain ⟨z1, q1, _, w1⟩ := DataW.trod_int u1 g1
  obtain ⟨z2, q2, _, w2⟩ := DataW.trod_int u2 g2
  simp at q0 q1 q2
  subst q0 q1 q2
  exact ⟨(z0, z1, z2), rfl, by simpa [Lit.wf] using w0, by simpa [Lit.wf] using w1, by simpa [Lit.wf] using w2⟩
end Go.Proofs.Ytdhnhhicjjcmdaa
