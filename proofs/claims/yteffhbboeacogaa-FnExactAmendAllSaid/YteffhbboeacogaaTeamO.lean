/- What an argument that is a slice of teams gives. No conditions. -/
import Derived.Test.YteffhbboeacogaaTeamA
import Derived.Test.YteffhbboeacogaaOpen
namespace Go.Proofs.Yteffhbboeacogaa
open Go.ChangeShapes Go.WideShapes Go.ChangeAt Go.RowKit
set_option maxRecDepth 100000
theorem ints_open {H : Type} {enc : TypeId × Value → H} {P : Program} {W : World} {t q : TypeId} {fuel : Nat} {v : Value} {x : DataW H × List MemPlace} (ht : P.underlying t = some (.slice q)) (hq : P.underlying q = some (.int .i64)) (cq : P.cellsOf q = 1)
    (h : DataW.trod enc P W 0 (fun _ => true) true fuel t [v] = some x) : ∃ (A : Option Addr) (c : Nat) (zs : List Int), v = .slice A zs.length c ∧ zs.length ≤ c ∧ c ≤ maxLen ∧ Rd W W.heap.size A (ivs zs) ∧ ∀ z ∈ zs, I6 z := by
  rcases open_ints ht hq cq h with ⟨e1, _⟩ | ⟨a, len, cap, zs, e1, _, h1, h2, hl, _, hcell, hwf⟩
  · have e : v = .slice none 0 0 := by simpa using e1
    exact ⟨none, 0, [], e, Nat.le_refl _, Nat.zero_le _, Rd.nil, by simp⟩
  · have e : v = .slice (some a) len cap := by simpa using e1
    subst e
    simp only [if_true] at hl
    have hlt : (zs.take len).length = len := by rw [List.length_take]; omega
    refine ⟨some a, cap, zs.take len, by rw [hlt], by rw [hlt]; exact h1, h2, fun j u hu => ?_, fun z hz => by have := hwf z (List.mem_of_mem_take hz); simpa [Lit.wf, I6] using this⟩
    have hj : j < len := by
      rcases Nat.lt_or_ge j len with h' | h'
      · exact h'
      · rw [List.getElem?_eq_none (by rw [ivs_len, hlt]; exact h')] at hu; cases hu
    have hjz : j < zs.length := by omega
    rw [ivs_get _ j (by rw [hlt]; exact hj)] at hu
    injection hu with hu
    have hcj := hcell j hjz
    rw [show zs.getD j 0 = zs[j] by simp [List.getD, List.getElem?_eq_getElem hjz]] at hcj
    refine ⟨a, rfl, ?_, by rw [← hu, List.getElem_take]; exact hcj⟩
    have := cell_lt hcj
    rwa [add_blk] at this
theorem slice_openT {H : Type} {enc : TypeId × Value → H} {P : Program} {W : World} {t e q : TypeId} {f0 f1 f2 f3 f4 f5 : Field} {v : Value} {d : DataW H} {p : List MemPlace} {base : Nat} (ht : P.underlying t = some (.slice e)) (he : P.underlying e = some (.struct #[f0, f1, f2, f3, f4, f5])) (hc : P.cellsOf e = 6)
    (o0 : f0.offset = 0) (o1 : f1.offset = 1) (o2 : f2.offset = 2) (o3 : f3.offset = 3) (o4 : f4.offset = 4) (o5 : f5.offset = 5) (u0 : P.underlying f0.type = some (.int .i64)) (u1 : P.underlying f1.type = some (.int .i64)) (u2 : P.underlying f2.type = some (.int .i64)) (u3 : P.underlying f3.type = some (.int .i64)) (u4 : P.underlying f4.type = some (.int .i64)) (u5 : P.underlying f5.type = some (.slice q)) (uq : P.underlying q = some (.int .i64)) (cq : P.cellsOf q = 1) (c0 : P.cellsOf f0.type = 1) (c1 : P.cellsOf f1.type = 1) (c2 : P.cellsOf f2.type = 1) (c3 : P.cellsOf f3.type = 1) (c4 : P.cellsOf f4.type = 1) (c5 : P.cellsOf f5.type = 1)
    (hv : Value.okWide P W .any base t v) (h : DataW.Trod enc P W 0 (fun _ => true) true t v d p) :
    ∃ (A : Option Addr) (c : Nat) (X : List Tm), v = .slice A X.length c ∧ RdT W W.heap.size A X ∧ X.length ≤ c ∧ c ≤ maxLen ∧ ∀ x ∈ X, x.ok := by
  obtain ⟨A, n, c, rfl⟩ := okWide_slice ht hv
  obtain ⟨fuel, hf⟩ := h
  rcases Go.Deep.open_slice ht hf with ⟨e1, _⟩ | ⟨a, len, cap, m, k, D, Pl, e1, _, h1, h2, hm, _, hx⟩
  · simp [Value.cells] at e1
    obtain ⟨rfl, rfl, rfl⟩ := e1
    exact ⟨none, 0, [], rfl, RdT.nil, Nat.le_refl _, Nat.zero_le _, by simp⟩
  · simp [Value.cells] at e1
    obtain ⟨rfl, rfl, rfl⟩ := e1
    simp only [if_true] at hm
    have each : ∀ i, i < n → ∃ x : Tm, AtT W W.heap.size (a.add (i * 6)) x ∧ x.ok := by
      intro i hi
      obtain ⟨cs', k1, k2⟩ := hx i (by omega)
      rw [hc] at k1
      obtain ⟨_, hlen, hcell⟩ := World.cells?_some k1
      obtain ⟨xs, j, _, _, _, hxl, hf⟩ := DataW.trod_struct he k2
      match cs', hlen with
      | [v0, v1, v2, v3, v4, v5], _ =>
        have e0 := hcell 0 (by omega)
        have e1 := hcell 1 (by omega)
        have e2 := hcell 2 (by omega)
        have e3 := hcell 3 (by omega)
        have e4 := hcell 4 (by omega)
        have e5 := hcell 5 (by omega)
        rw [add_two] at e0 e1 e2 e3 e4 e5
        match xs, hxl with
        | [y0, y1, y2, y3, y4, y5], _ =>
          have g0 := hf 0 f0 rfl
          have g1 := hf 1 f1 rfl
          have g2 := hf 2 f2 rfl
          have g3 := hf 3 f3 rfl
          have g4 := hf 4 f4 rfl
          have g5 := hf 5 f5 rfl
          simp [o0, o1, o2, o3, o4, o5, c0, c1, c2, c3, c4, c5] at g0 g1 g2 g3 g4 g5
          obtain ⟨z0, q0, _, w0⟩ := DataW.trod_int u0 g0
          obtain ⟨z1, q1, _, w1⟩ := DataW.trod_int u1 g1
          obtain ⟨z2, q2, _, w2⟩ := DataW.trod_int u2 g2
          obtain ⟨z3, q3, _, w3⟩ := DataW.trod_int u3 g3
          obtain ⟨z4, q4, _, w4⟩ := DataW.trod_int u4 g4
          obtain ⟨Aj, cj, zs, q5, b1, b2, b3, b4⟩ := ints_open u5 uq cq g5
          simp at q0 q1 q2 q3 q4
          subst q0 q1 q2 q3 q4 q5
          simp only [Nat.add_zero, add_part a (i * 6) 0, add_part a (i * 6) 1, add_part a (i * 6) 2, add_part a (i * 6) 3, add_part a (i * 6) 4, Nat.zero_add] at e0 e1 e2 e3 e4 e5
          have hlt := cell_lt e0
          exact ⟨⟨z0, z1, z2, z3, z4, zs⟩, ⟨hlt, Aj, cj, e0, e1, e2, e3, e4, e5, b1, b2, b3⟩, by simpa [Lit.wf, I6] using w0, by simpa [Lit.wf, I6] using w1, by simpa [Lit.wf, I6] using w2, by simpa [Lit.wf, I6] using w3, by simpa [Lit.wf, I6] using w4, b4⟩
    obtain ⟨X, hX, hp⟩ := list_of n each
    subst hX
    exact ⟨some a, c, X, rfl, fun k x hx => ⟨a, rfl, by
      have hk := (List.getElem?_eq_some_iff.1 hx).1
      have := (List.getElem?_eq_some_iff.1 hx).2
      rw [← this]; exact (hp k hk).1⟩, h1, h2, fun x hx => by obtain ⟨i, hi, rfl⟩ := List.getElem_of_mem hx; exact (hp i hi).2⟩
end Go.Proofs.Yteffhbboeacogaa
