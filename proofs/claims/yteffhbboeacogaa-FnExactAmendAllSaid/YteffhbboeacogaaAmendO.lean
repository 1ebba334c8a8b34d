/- What an argument that is a slice of amends gives. No conditions. -/
import Derived.Test.YteffhbboeacogaaAmendA
import Derived.Test.YteffhbboeacogaaOpen
import Derived.Test.YteffhbboeacogaaTeamO
namespace Go.Proofs.Yteffhbboeacogaa
open Go.ChangeShapes Go.WideShapes Go.ChangeAt Go.RowKit
set_option maxRecDepth 100000
theorem slice_openA {H : Type} {enc : TypeId × Value → H} {P : Program} {W : World} {t e q : TypeId} {f0 f1 f2 : Field} {v : Value} {d : DataW H} {p : List MemPlace} {base : Nat} (ht : P.underlying t = some (.slice e)) (he : P.underlying e = some (.struct #[f0, f1, f2])) (hc : P.cellsOf e = 3)
    (o0 : f0.offset = 0) (o1 : f1.offset = 1) (o2 : f2.offset = 2) (u0 : P.underlying f0.type = some (.int .i64)) (u1 : P.underlying f1.type = some (.int .i64)) (u2 : P.underlying f2.type = some (.slice q)) (uq : P.underlying q = some (.int .i64)) (cq : P.cellsOf q = 1) (c0 : P.cellsOf f0.type = 1) (c1 : P.cellsOf f1.type = 1) (c2 : P.cellsOf f2.type = 1)
    (hv : Value.okWide P W .any base t v) (h : DataW.Trod enc P W 0 (fun _ => true) true t v d p) :
    ∃ (A : Option Addr) (c : Nat) (X : List Am), v = .slice A X.length c ∧ RdA W W.heap.size A X ∧ X.length ≤ c ∧ c ≤ maxLen ∧ ∀ x ∈ X, x.ok := by
  obtain ⟨A, n, c, rfl⟩ := okWide_slice ht hv
  obtain ⟨fuel, hf⟩ := h
  rcases Go.Deep.open_slice ht hf with ⟨e1, _⟩ | ⟨a, len, cap, m, k, D, Pl, e1, _, h1, h2, hm, _, hx⟩
  · simp [Value.cells] at e1
    obtain ⟨rfl, rfl, rfl⟩ := e1
    exact ⟨none, 0, [], rfl, RdA.nil, Nat.le_refl _, Nat.zero_le _, by simp⟩
  · simp [Value.cells] at e1
    obtain ⟨rfl, rfl, rfl⟩ := e1
    simp only [if_true] at hm
    have each : ∀ i, i < n → ∃ x : Am, AtA W W.heap.size (a.add (i * 3)) x ∧ x.ok := by
      intro i hi
      obtain ⟨cs', k1, k2⟩ := hx i (by omega)
      rw [hc] at k1
      obtain ⟨_, hlen, hcell⟩ := World.cells?_some k1
      obtain ⟨xs, j, _, _, _, hxl, hf⟩ := DataW.trod_struct he k2
      match cs', hlen with
      | [v0, v1, v2], _ =>
        have e0 := hcell 0 (by omega)
        have e1 := hcell 1 (by omega)
        have e2 := hcell 2 (by omega)
        rw [add_two] at e0 e1 e2
        match xs, hxl with
        | [y0, y1, y2], _ =>
          have g0 := hf 0 f0 rfl
          have g1 := hf 1 f1 rfl
          have g2 := hf 2 f2 rfl
          simp [o0, o1, o2, c0, c1, c2] at g0 g1 g2
          obtain ⟨z0, q0, _, w0⟩ := DataW.trod_int u0 g0
          obtain ⟨z1, q1, _, w1⟩ := DataW.trod_int u1 g1
          obtain ⟨Aj, cj, zs, q2, b1, b2, b3, b4⟩ := ints_open u2 uq cq g2
          simp at q0 q1
          subst q0 q1 q2
          simp only [Nat.add_zero, add_part a (i * 3) 0, add_part a (i * 3) 1, Nat.zero_add] at e0 e1 e2
          have hlt := cell_lt e0
          exact ⟨⟨z0, z1, zs⟩, ⟨hlt, Aj, cj, e0, e1, e2, b1, b2, b3⟩, by simpa [Lit.wf, I6] using w0, by simpa [Lit.wf, I6] using w1, b4⟩
    obtain ⟨X, hX, hp⟩ := list_of n each
    subst hX
    exact ⟨some a, c, X, rfl, fun k x hx => ⟨a, rfl, by
      have hk := (List.getElem?_eq_some_iff.1 hx).1
      have := (List.getElem?_eq_some_iff.1 hx).2
      rw [← this]; exact (hp k hk).1⟩, h1, h2, fun x hx => by obtain ⟨i, hi, rfl⟩ := List.getElem_of_mem hx; exact (hp i hi).2⟩
theorem struct_openA {H : Type} {enc : TypeId × Value → H} {P : Program} {W : World} {t q : TypeId} {f0 f1 f2 : Field} {v : Value} {d : DataW H} {p : List MemPlace} {base : Nat} (ht : P.underlying t = some (.struct #[f0, f1, f2])) (hone : Go.Deep.oneCellFields P #[f0, f1, f2] = true) (hc : P.cellsOf t = 3)
    (u0 : P.underlying f0.type = some (.int .i64)) (u1 : P.underlying f1.type = some (.int .i64)) (u2 : P.underlying f2.type = some (.slice q)) (uq : P.underlying q = some (.int .i64)) (cq : P.cellsOf q = 1)
    (hv : Value.okWide P W .any base t v) (h : DataW.Trod enc P W 0 (fun _ => true) true t v d p) :
    ∃ (x : Am) (Aj : Option Addr) (cj : Nat), v = .agg #[.int .i64 x.loc, .int .i64 x.drp, .slice Aj x.put.length cj] ∧ x.put.length ≤ cj ∧ cj ≤ maxLen ∧ Rd W W.heap.size Aj (ivs x.put) ∧ x.ok := by
  obtain ⟨v0, v1, v2, y0, y1, y2, n, rfl, _, _, g0, g1, g2⟩ := Go.Joins.open_agg3 ht hone hc hv h
  obtain ⟨z0, q0, _, w0⟩ := DataW.trod_int u0 g0
  obtain ⟨z1, q1, _, w1⟩ := DataW.trod_int u1 g1
  obtain ⟨Aj, cj, zs, q2, b1, b2, b3, b4⟩ := ints_open u2 uq cq g2
  simp at q0 q1
  subst q0 q1 q2
  exact ⟨⟨z0, z1, zs⟩, Aj, cj, rfl, b1, b2, b3, by simpa [Lit.wf, I6] using w0, by simpa [Lit.wf, I6] using w1, b4⟩
end Go.Proofs.Yteffhbboeacogaa
