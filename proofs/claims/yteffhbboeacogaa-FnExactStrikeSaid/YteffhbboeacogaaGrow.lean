/- A row that a loop makes grow: which blocks it may turn and which stay, and append's law for it; filters of a list's beginning. No conditions. -/
import Derived.Test.YteffhbboeacogaaAppend
import Derived.Test.YteffhbboeacogaaIntS
namespace Go.Proofs.Yteffhbboeacogaa
open Go.ChangeShapes Go.WideShapes Go.ChangeAt Go.RowKit
/-- A row that began in block q of world W and has grown since; of what W held, block q alone has turned. -/
structure Gr (W : World) (q : Nat) (t : TypeId) (w : World) (v : Value) (xs : List Value) : Prop where
  row : Row w q w.heap.size t v xs
  out : Out q (q + 1) W w
  own : ∀ g, v.ownBlock = some g → g = q ∨ W.heap.size ≤ g
section
variable {W w w' : World} {q : Nat} {t : TypeId} {v : Value} {xs : List Value}
theorem Gr.start (h : Row W q W.heap.size t (.slice (some ⟨q, 0, none⟩) 0 0) xs) : Gr W q t W (.slice (some ⟨q, 0, none⟩) 0 0) xs :=
  ⟨h, Out.refl, fun g hg => by simp [Value.ownBlock] at hg; exact .inl hg.symm⟩
theorem Gr.nil (W : World) (q : Nat) (t : TypeId) : Gr W q t W (.slice none 0 0) [] := ⟨Row.nil, Out.refl, fun g hg => by simp [Value.ownBlock] at hg⟩
theorem Gr.new (h : Gr W q t w v xs) (hb : Below w.heap.size w w') : Gr W q t w' v xs :=
  ⟨(h.row.new hb).wide (Nat.le_refl _) hb.size, h.out.trans (Out.of_below hb), h.own⟩
theorem Gr.drewN (h : Gr W q t w v xs) (n : Nat) : Gr W q t (w.drewN n) v xs := ⟨h.row, h.out.drewN n, h.own⟩
theorem Gr.drew (h : Gr W q t w v xs) : Gr W q t w.drew v xs := h.drewN 1
theorem Gr.below (h : Gr W q t w v xs) {B : Nat} (hB : B ≤ q) (hs : B ≤ W.heap.size) : Below B W w := h.out.below hB hs
theorem Gr.rd {B : Nat} {A : Option Addr} {ys : List Value} (h : Gr W q t w v xs) (r : Rd W B A ys) (hB : B ≤ q) (hs : B ≤ W.heap.size) : Rd w w.heap.size A ys := (r.below (h.below hB hs)).more (by have := h.out.size; omega)
theorem Gr.other {lo hi : Nat} {t' : TypeId} {u : Value} {ys : List Value} (h : Gr W q t w v xs) (r : Row W lo hi t' u ys) (hq : q < lo) : Row w lo hi t' u ys := r.out h.out (.inr hq)
/-- The row may only lie in block q, or in blocks made since: another row's block is not touched. -/
theorem run_gr {P : Program} (ty ty' : TypeId) (e : TypeId) (i : TypeInfo) (z : Value) (bytes : Nat) (ht : P.underlying ty = some (.slice e)) (hi : P.info? e = some i) (hz : i.zero = some z) (hsize : i.size = 1) (hby : i.bytes = bytes) (hzs : z.cells.size = 1)
    {B m c : Nat} {news : List Value} {ad : Addr} (h : Gr W q e w v xs) (hq : q ≤ w.heap.size) (hm : news.length = m) (hr : Rd w B (some ad) news) (h1 : ∀ u ∈ news, u.oneCell' = true)
    (h63 : xs.length + m ≤ maxLen) (hbytes : (xs.length + m) * bytes ≤ 140737488355328) :
    ∃ v' w', (Builtin.append_ #[ty, ty] ty' #[v, .slice (some ad) m c]).run P w = .ok v' w' ∧ Gr W q e w' v' (xs ++ news) ∧ w.heap.size ≤ w'.heap.size := by
  obtain ⟨v', w', hrun, h2, h3⟩ := run_app (P := P) ty ty' e i z bytes ht hi hz hsize hby hzs (c := c) h.row hm hr h1 h63 hbytes hq
  obtain ⟨v2, w2, hrun2, _, b2, _, b4⟩ := run_append_own_at (P := P) w q ty ty' e i z 1 bytes ht hi hz hsize hby hzs (by omega) v xs.length xs h.row.1 ad m c news (by omega) (fun j u hu => by
    obtain ⟨ad', e1, _, hc⟩ := hr j u hu
    injection e1 with e1
    subst e1
    exact hc) h1 h63 hbytes hq
  rw [hrun] at hrun2
  injection hrun2 with e1 e2
  subst e1
  subst e2
  have hs := h.out.size
  refine ⟨v', w', hrun, ⟨h2, ⟨b2.os.trans h.out.os, b2.tape.trans h.out.tape, b2.output.trans h.out.output, by have := b2.size; omega, fun k hk hn => ?_⟩, fun g hg => ?_⟩, b2.size⟩
  · refine (b2.block k (by omega) (fun e => ?_)).trans (h.out.block k hk hn)
    have := h.own k e.symm
    omega
  · rcases b4 with b4 | b4
    · exact h.own g (b4 ▸ hg)
    · rw [b4] at hg
      injection hg with hg
      exact .inr (by omega)
end
/-- Append's law for a row that grows. -/
theorem wpList_gr {P : Program} {w : World} {ops : Array Oper} {rest : List Oper} {o : Oper} {a : Act} {Q : Exit → Act → World → Prop} (hgd : o.guard = none) (s x : Operand) (t : TypeId)
    (ho : o.op = .call { callee := .builtin .append, args := #[s, x], argTypes := #[t, t] })
    (e : TypeId) (i : TypeInfo) (z : Value) (bytes : Nat) (ht : P.underlying t = some (.slice e)) (hi : P.info? e = some i) (hz : i.zero = some z) (hsize : i.size = 1) (hby : i.bytes = bytes) (hzs : z.cells.size = 1)
    {W : World} {q B m c : Nat} {v : Value} {xs news : List Value} {ad : Addr} (hs : a.eval s = v) (hx : a.eval x = .slice (some ad) m c) (h : Gr W q e w v xs) (hq : q ≤ w.heap.size) (hm : news.length = m) (hr : Rd w B (some ad) news) (h1 : ∀ u ∈ news, u.oneCell' = true)
    (h63 : xs.length + m ≤ maxLen) (hbytes : (xs.length + m) * bytes ≤ 140737488355328)
    (K : ∀ v' w', Gr W q e w' v' (xs ++ news) → w.heap.size ≤ w'.heap.size → wpList P ops Q rest (a.put o.dst v') w') : wpList P ops Q (o :: rest) a w := by
  obtain ⟨v', w', hrun, h2, h3⟩ := run_gr (P := P) t o.type e i z bytes ht hi hz hsize hby hzs (c := c) h hq hm hr h1 h63 hbytes
  refine wpList_plain hgd fun K' hK' => ?_
  unfold Oper.wp
  simp [execOp, ho, resolve, invoke, builtin, hs, hx, hrun, Result.andThen]
  exact hK' _ _ (K v' w' h2 h3)
theorem alloc_new (w : World) (o : Obj) : Below w.heap.size w (w.alloc o) := (Below.refl _ _).alloc (Nat.le_refl _) o
theorem filt_yes {α : Type} {l : List α} {p : α → Bool} {k : Nat} (hk : k < l.length) (h : p l[k] = true) : (l.take (k + 1)).filter p = (l.take k).filter p ++ [l[k]] := by
  rw [List.take_succ_eq_append_getElem hk, List.filter_append]; simp [h]
theorem filt_no {α : Type} {l : List α} {p : α → Bool} {k : Nat} (hk : k < l.length) (h : p l[k] = false) : (l.take (k + 1)).filter p = (l.take k).filter p := by
  rw [List.take_succ_eq_append_getElem hk, List.filter_append]; simp [h]
theorem filt_len {α : Type} (l : List α) (p : α → Bool) (k : Nat) : ((l.take k).filter p).length ≤ k := Nat.le_trans (List.length_filter_le _ _) (by simp; omega)
end Go.Proofs.Yteffhbboeacogaa
