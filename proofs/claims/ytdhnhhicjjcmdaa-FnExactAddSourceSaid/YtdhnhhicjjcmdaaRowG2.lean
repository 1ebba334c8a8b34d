/- Rows of structs of any number of cells: stores into a cell, the row that make lays, slicing, what an argument gives, over any program. No conditions. -/
import Derived.Test.YtdhnhhicjjcmdaaRowG
import Derived.Test.YtdhnhhicjjcmdaaOpen3
namespace Go.Proofs.Ytdhnhhicjjcmdaa
open Go.ChangeShapes Go.WideShapes Go.ChangeAt Go.RowKit
set_option maxRecDepth 100000
section
variable {α : Type} (E : CEnc α)
theorem flE_inj {X Y : List α} (h : flE E X = flE E Y) : X.length = Y.length := by
  have := congrArg List.length h
  rw [flE_len, flE_len] at this
  exact Nat.eq_of_mul_eq_mul_right E.pos this
theorem flE_cons (x : α) (X : List α) : flE E (x :: X) = E.enc x ++ flE E X := rfl
theorem flE_set : ∀ (X : List α) (k j : Nat) (h : k < X.length) (u : Value) (y : α), j < E.size → E.enc y = (E.enc X[k]).set j u → (flE E X).set (k * E.size + j) u = flE E (X.set k y)
  | x :: X, 0, j, _, u, y, hj, hy => by
    have hy' : E.enc y = (E.enc x).set j u := hy
    rw [List.set_cons_zero, flE_cons, flE_cons, hy', Nat.zero_mul, Nat.zero_add, List.set_append_left _ _ (by rw [E.len]; exact hj)]
  | x :: X, k + 1, j, h, u, y, hj, hy => by
    have hy' : E.enc y = (E.enc (X[k]'(by simpa using h))).set j u := hy
    have e : (k + 1) * E.size + j - (E.enc x).length = k * E.size + j := by rw [E.len, Nat.succ_mul]; omega
    rw [List.set_cons_succ, flE_cons, flE_cons, List.set_append_right _ _ (by rw [E.len, Nat.succ_mul]; omega), e, flE_set X k j (by simpa using h) u y hj hy']
theorem flE_zero (z : Array Value) (x0 : α) (n : Nat) (hz : z.toList = E.enc x0) : (madeCells z (n * E.size)).toList = flE E (List.replicate n x0) := by
  have hs : z.size = E.size := by rw [← Array.length_toList, hz, E.len]
  apply List.ext_getElem
  · rw [flE_len, List.length_replicate, Array.length_toList, size_madeCells]
  · intro i h1 h2
    rw [flE_len, List.length_replicate] at h2
    have hk : i / E.size < (List.replicate n x0).length := by
      rw [List.length_replicate]
      exact (Nat.div_lt_iff_lt_mul E.pos).2 h2
    have hj : i % E.size < E.size := Nat.mod_lt _ E.pos
    have hi : i / E.size * E.size + i % E.size = i := by rw [Nat.mul_comm]; exact Nat.div_add_mod i E.size
    have g := flE_get E (List.replicate n x0) (i / E.size) (i % E.size) hk hj
    rw [hi, List.getElem?_eq_getElem (by rw [flE_len, List.length_replicate]; exact h2)] at g
    have g2 : (E.enc (List.replicate n x0)[i / E.size])[i % E.size]? = (E.enc x0)[i % E.size]? := by rw [List.getElem_replicate]
    rw [g2] at g
    have hl : i % E.size < (E.enc x0).length := by rw [E.len]; exact hj
    rw [List.getElem?_eq_getElem hl] at g
    injection g with g
    rw [g]
    unfold madeCells
    simp only [Array.toList_map, Array.toList_range, List.getElem_map, List.getElem_range]
    rw [hs]
    have hz2 : z[i % E.size]! = (E.enc x0)[i % E.size] := by
      rw [getElem!_pos z (i % E.size) (by rw [hs]; exact hj)]
      simp only [← hz, Array.getElem_toList]
    exact hz2
end
section
variable {α : Type} {E : CEnc α} {w w' : World} {B lo hi lo' hi' : Nat} {t : TypeId} {v : Value} {X : List α}
theorem RowG.base (h : RowG E w lo hi t v X) {n : Nat} (hn : X.length = n) (hp : 0 < n) : ∃ g c, v = .slice (some ⟨g, 0, none⟩) n c ∧ lo ≤ g ∧ g < hi ∧ g < w.heap.size ∧ n ≤ c ∧ c ≤ maxLen := by
  subst hn
  rcases h.1.2 with ⟨rfl, hn⟩ | ⟨g, cap, cur, rfl, hb, hgg, hnc, hcm, _⟩
  · omega
  · exact ⟨g, cap, rfl, hb, h.2 g rfl, (Array.getElem?_eq_some_iff.1 hgg).1, hnc, hcm⟩
theorem RowG.set {g n c i : Nat} {u : Value} {Y : List α} (h : RowG E w lo hi t (.slice (some ⟨g, 0, none⟩) n c) X) (hY : (flE E X).set i u = flE E Y) : RowG E (w.setCell ⟨g, i, none⟩ u) lo hi t (.slice (some ⟨g, 0, none⟩) n c) Y := by
  obtain ⟨⟨h1, h2⟩, h3⟩ := h
  have hl : X.length = Y.length := by
    have : ((flE E X).set i u).length = (flE E Y).length := by rw [hY]
    rw [List.length_set, flE_len, flE_len] at this
    exact Nat.eq_of_mul_eq_mul_right E.pos this
  rcases h2 with ⟨e, hn⟩ | ⟨g', cap, cur, e, hb, hgg, hnc, hcm, hcs, htk⟩
  · injection e with e1; cases e1
  · injection e with e1 e2 e3
    injection e1 with e1
    injection e1 with e1
    subst e1 e3
    have hst := (World.ownsRow.stored (w := w) (base := lo) (e := t) (size := E.size) (g := g) (n := n) (cap := c) (xs := flE E X) (e2 ▸ ⟨h1, .inr ⟨g, c, cur, rfl, hb, hgg, hnc, hcm, hcs, htk⟩⟩) i u).1
    rw [hY] at hst
    refine ⟨?_, fun g' hg' => h3 g' hg'⟩
    rw [← hl]
    exact e2 ▸ hst
theorem RowG.froz {g n c i : Nat} (h : RowG E w lo hi t (.slice (some ⟨g, 0, none⟩) n c) X) : w.frozen? ⟨g, i, none⟩ = false := by
  obtain ⟨⟨h1, h2⟩, h3⟩ := h
  rcases h2 with ⟨e, hn⟩ | ⟨g', cap, cur, e, hb, hgg, _⟩
  · injection e with e1; cases e1
  · injection e with e1 e2 e3
    injection e1 with e1
    injection e1 with e1
    subst e1
    exact frozen_of_row w g i cur t hgg
/-- The address of 's[k:]'. -/
def tlAG (s : Nat) (A : Option Addr) (k c : Nat) : Option Addr := if c = k then A else A.map (·.add (k * s))
theorem Rd.tlG {k c : Nat} {A : Option Addr} (h : Rd w B A (flE E X)) (hc : X.length ≤ c) : Rd w B (tlAG E.size A k c) (flE E (X.drop k)) := fun j u hu => by
  unfold tlAG
  rw [flE_drop, List.getElem?_drop] at hu
  by_cases e : c = k
  · rw [List.getElem?_eq_none (by rw [flE_len]; have := Nat.mul_le_mul_right E.size (show X.length ≤ k by omega); omega)] at hu; cases hu
  · obtain ⟨ad, rfl, hb, hc'⟩ := h _ u hu
    rw [if_neg e]
    refine ⟨ad.add (k * E.size), rfl, by rw [add_blk]; exact hb, ?_⟩
    rw [add_two]; exact hc'
theorem Rd.hdG {k : Nat} {A : Option Addr} (h : Rd w B A (flE E X)) : Rd w B A (flE E (X.take k)) := fun j u hu => by
  rw [flE_take, List.getElem?_take] at hu
  split at hu
  · exact h j u hu
  · cases hu
end
theorem run_fromG {s : Nat} {P : Program} (W : World) (t e : TypeId) (ht : P.underlying t = some (.slice e)) (hz : ∀ w, (Go.sizeOf e).run P w = .ok s w) (A : Option Addr) {n c k : Nat} (h1 : k ≤ n) (_h2 : n ≤ c) :
    (Instr.slice t (.slice A n c) (some (.int .i64 (k : Int))) none none).run P W = .ok (.slice (tlAG s A k c) (n - k) (c - k)) W := by
  have ht' : P.underlying t = some (.slice (P.elem t)) := by simp [Program.elem, ht]
  have he : P.elem t = e := by simp [Program.elem, ht]
  rw [run_slice_l W t _ _ _ ht' .i64 _ (by omega) (by omega), he, hz]
  unfold tlAG
  by_cases h0 : c = k
  · simp [Result.andThen, sliced, h0]
  · simp [Result.andThen, sliced, h0]
theorem run_toG {s : Nat} {P : Program} (W : World) (t e : TypeId) (ht : P.underlying t = some (.slice e)) (hz : ∀ w, (Go.sizeOf e).run P w = .ok s w) (A : Option Addr) {n c k : Nat} (h1 : k ≤ c) :
    (Instr.slice t (.slice A n c) none (some (.int .i64 (k : Int))) none).run P W = .ok (.slice A k c) W := by
  have ht' : P.underlying t = some (.slice (P.elem t)) := by simp [Program.elem, ht]
  have he : P.elem t = e := by simp [Program.elem, ht]
  rw [run_slice_h W t _ _ _ ht' .i64 _ (by omega) (by omega), he, hz]
  by_cases h0 : c = 0
  · simp [Result.andThen, sliced, h0]
  · cases A <;> simp [Result.andThen, sliced, h0, Addr.add]
/-- What an argument that is a slice of flat structs gives; hel: what one struct's cells are. -/
theorem slice_openG {α : Type} (E : CEnc α) {H : Type} {enc : TypeId × Value → H} {P : Program} {W : World} {t e : TypeId} {v : Value} {d : DataW H} {p : List MemPlace} {base : Nat} (ht : P.underlying t = some (.slice e)) (hc : P.cellsOf e = E.size)
    (hel : ∀ (f : Nat) (cs : List Value) (D : DataW H) (Pl : List MemPlace), cs.length = E.size → DataW.trod enc P W 0 (fun _ => true) true f e cs = some (D, Pl) → ∃ x : α, cs = E.enc x)
    (hv : Value.okWide P W .any base t v) (h : DataW.Trod enc P W 0 (fun _ => true) true t v d p) :
    ∃ (A : Option Addr) (c : Nat) (X : List α), v = .slice A X.length c ∧ Rd W W.heap.size A (flE E X) ∧ X.length ≤ c ∧ c ≤ maxLen := by
  obtain ⟨A, n, c, rfl⟩ := okWide_slice ht hv
  obtain ⟨fuel, hf⟩ := h
  rcases Go.Deep.open_slice ht hf with ⟨e1, _⟩ | ⟨a, len, cap, m, k, D, Pl, e1, _, h1, h2, hm, _, hx⟩
  · simp [Value.cells] at e1
    obtain ⟨rfl, rfl, rfl⟩ := e1
    exact ⟨none, 0, [], rfl, Rd.nil, Nat.le_refl _, Nat.zero_le _⟩
  · simp [Value.cells] at e1
    obtain ⟨rfl, rfl, rfl⟩ := e1
    simp only [if_true] at hm
    have each : ∀ i, i < n → ∃ q : α, ∀ (j : Nat) (u : Value), (E.enc q)[j]? = some u → W.cell? (a.add (i * E.size + j)) = some u := by
      intro i hi
      obtain ⟨cs', k1, k2⟩ := hx i (by omega)
      rw [hc] at k1
      obtain ⟨_, hlen, hcell⟩ := World.cells?_some k1
      obtain ⟨q, hq⟩ := hel _ _ _ _ hlen k2
      refine ⟨q, fun j u hu => ?_⟩
      rw [← hq] at hu
      have hj : j < cs'.length := (List.getElem?_eq_some_iff.1 hu).1
      have e0 := hcell j (by omega)
      rw [add_two] at e0
      rw [e0]
      simp [hu]
    obtain ⟨X, hX, hp⟩ := list_of n each
    subst hX
    refine ⟨some a, c, X, rfl, fun j u hu => ?_, h1, h2⟩
    have hj : j < X.length * E.size := by
      rcases Nat.lt_or_ge j (X.length * E.size) with h' | h'
      · exact h'
      · rw [List.getElem?_eq_none (by rw [flE_len]; exact h')] at hu; cases hu
    have hk : j / E.size < X.length := (Nat.div_lt_iff_lt_mul E.pos).2 hj
    have hr : j % E.size < E.size := Nat.mod_lt _ E.pos
    have hi : j / E.size * E.size + j % E.size = j := by rw [Nat.mul_comm]; exact Nat.div_add_mod j E.size
    have g := flE_get E X (j / E.size) (j % E.size) hk hr
    rw [hi, hu] at g
    have hcu := hp (j / E.size) hk (j % E.size) u g.symm
    rw [hi] at hcu
    refine ⟨a, rfl, ?_, hcu⟩
    have := cell_lt hcu
    rwa [add_blk] at this
end Go.Proofs.Ytdhnhhicjjcmdaa
