/- Sums of chapter 15, without code: who speaks last of each side. -/
import Derived.Test.YthkigilegnjglaaMg9
import Derived.Test.YthkigilegnjglaaMg1
import Derived.Deep.RegionLaw
import Derived.Deep.RegionHeld3
namespace Go.Proofs.Ythkigilegnjglaa
/-- The last of o of whom it is b that they are one of a. -/
def lstB (o a : List Int) (b : Bool) : Option Int := o.reverse.find? fun x => a.contains x == b
/-- Nobody from place k on is such a one. -/
def noB (o a : List Int) (b : Bool) (k : Nat) : Prop := ∀ j, k ≤ j → j < o.length → a.contains (o.getD j 0) ≠ b
theorem lst_none {o a : List Int} {b : Bool} (h : noB o a b 0) : lstB o a b = none := by
  unfold lstB
  rw [List.find?_eq_none]
  intro x hx
  rw [List.mem_reverse] at hx
  obtain ⟨j, hj, rfl⟩ := List.getElem_of_mem hx
  have := h j (Nat.zero_le _) hj
  rw [show o.getD j 0 = o[j] by simp [List.getD, hj]] at this
  simpa using this
theorem lst_some {o a : List Int} {b : Bool} {k : Nat} (hk : k < o.length) (h : noB o a b (k + 1)) (hx : a.contains o[k] = b) : lstB o a b = some o[k] := by
  unfold lstB
  have e : o = o.take k ++ ([o[k]] ++ o.drop (k + 1)) := by
    conv => lhs; rw [← List.take_append_drop k o, List.drop_eq_getElem_cons hk]
    simp
  have hn : (o.drop (k + 1)).reverse.find? (fun x => a.contains x == b) = none := by
    rw [List.find?_eq_none]
    intro x hx
    rw [List.mem_reverse] at hx
    obtain ⟨j, hj, rfl⟩ := List.getElem_of_mem hx
    rw [List.length_drop] at hj
    have := h (k + 1 + j) (by omega) (by omega)
    rw [show o.getD (k + 1 + j) 0 = o[k + 1 + j]'(by omega) by simp [List.getD, show k + 1 + j < o.length by omega]] at this
    rw [List.getElem_drop]
    simpa using this
  conv => lhs; rw [e]
  rw [List.reverse_append, List.reverse_append, List.find?_append, List.find?_append, hn]
  rw [show [o[k]].reverse = [o[k]] from rfl, List.find?_cons, hx]
  simp
theorem noB_len (o a : List Int) (b : Bool) : noB o a b o.length := fun j h1 h2 => absurd h2 (by omega)
theorem noB_dec {o a : List Int} {b : Bool} {k : Nat} (hk : k < o.length) (h : noB o a b (k + 1)) (hx : a.contains o[k] ≠ b) : noB o a b k := fun j h1 h2 => by
  by_cases e : j = k
  · subst e
    rw [show o.getD j 0 = o[j] by simp [List.getD, hk]]
    exact hx
  · exact h j (by omega) h2
/-- The replies after q of the two passes. -/
def rgP (o a : List Int) : Nat → List Int
  | 0 => []
  | q + 1 => rgP o a q ++ (lstB o a (q == 1)).toList
theorem rgP_len (o a : List Int) : ∀ q, (rgP o a q).length ≤ q
  | 0 => Nat.le_refl _
  | q + 1 => by
    have := rgP_len o a q
    unfold rgP
    rw [List.length_append]
    cases lstB o a (q == 1) <;> simp <;> omega
theorem rgP_rig (o a : List Int) : rgP o a 2 = rigL o a := by
  unfold rgP rgP rgP rigL lstB
  rw [List.nil_append]
  have e1 : (fun x => a.contains x == (0 == 1)) = fun x => !(a.contains x) := by funext x; cases a.contains x <;> rfl
  have e2 : (fun x => a.contains x == (1 == 1)) = fun x => a.contains x := by funext x; cases a.contains x <;> rfl
  rw [show ((0 : Nat) == 1) = (0 == 1) from rfl, e1, e2]
theorem rgP_none {o a : List Int} {q : Nat} (h : noB o a (q == 1) 0) : rgP o a (q + 1) = rgP o a q := by
  show rgP o a q ++ (lstB o a (q == 1)).toList = _
  rw [lst_none h]
  simp
theorem rgP_some {o a : List Int} {q k : Nat} (hk : k < o.length) (h : noB o a (q == 1) (k + 1)) (hx : a.contains o[k] = (q == 1)) : rgP o a (q + 1) = rgP o a q ++ [o[k]] := by
  show rgP o a q ++ (lstB o a (q == 1)).toList = _
  rw [lst_some hk h hx]
  rfl
end Go.Proofs.Ythkigilegnjglaa

/- A row that a loop makes grow: which blocks it may turn and which stay, and append's law for it; filters of a list's beginning. No conditions. -/
namespace Go.Proofs.Ythkigilegnjglaa
open Go.ChangeShapes Go.WideShapes Go.ChangeAt Go.RowKit
/-- A row that began in block q of world W and has grown since; of what W held, block q alone has turned. -/
structure Gr (W : World) (q : Nat) (t : TypeId) (w : World) (v : Value) (xs : List Value) : Prop where
  row : Row w q w.heap.size t v xs
  out : Out q (q + 1) W w
  own : ∀ g, v.ownBlock = some g → g = q ∨ W.heap.size ≤ g
section
variable {W w w' : World} {q : Nat} {t : TypeId} {v : Value} {xs : List Value}
theorem Gr.start (h : Row W q W.heap.size t (.slice (some ⟨q, 0, none⟩) 0 0) xs) : Gr W q t W (.slice (some ⟨q, 0, none⟩) 0 0) xs :=
  ⟨h, Out.refl, fun g hg => by simp [Value.ownBlock] at hg; exact .inl hg.symm⟩
theorem Gr.nil (W : World) (q : Nat) (t : TypeId) : Gr W q t W (.slice none 0 0) [] := ⟨Row.nil, Out.refl, fun g hg => by simp [Value.ownBlock] at hg⟩
theorem Gr.new (h : Gr W q t w v xs) (hb : Below w.heap.size w w') : Gr W q t w' v xs :=
  ⟨(h.row.new hb).wide (Nat.le_refl _) hb.size, h.out.trans (Out.of_below hb), h.own⟩
theorem Gr.drewN (h : Gr W q t w v xs) (n : Nat) : Gr W q t (w.drewN n) v xs := ⟨h.row, h.out.drewN n, h.own⟩
theorem Gr.drew (h : Gr W q t w v xs) : Gr W q t w.drew v xs := h.drewN 1
theorem Gr.below (h : Gr W q t w v xs) {B : Nat} (hB : B ≤ q) (hs : B ≤ W.heap.size) : Below B W w := h.out.below hB hs
theorem Gr.rd {B : Nat} {A : Option Addr} {ys : List Value} (h : Gr W q t w v xs) (r : Rd W B A ys) (hB : B ≤ q) (hs : B ≤ W.heap.size) : Rd w w.heap.size A ys := (r.below (h.below hB hs)).more (by have := h.out.size; omega)
theorem Gr.other {lo hi : Nat} {t' : TypeId} {u : Value} {ys : List Value} (h : Gr W q t w v xs) (r : Row W lo hi t' u ys) (hq : q < lo) : Row w lo hi t' u ys := r.out h.out (.inr hq)
/-- The row may only lie in block q, or in blocks made since: another row's block is not touched. -/
theorem run_gr {P : Program} (ty ty' : TypeId) (e : TypeId) (i : TypeInfo) (z : Value) (bytes : Nat) (ht : P.underlying ty = some (.slice e)) (hi : P.info? e = some i) (hz : i.zero = some z) (hsize : i.size = 1) (hby : i.bytes = bytes) (hzs : z.cells.size = 1)
    {B m c : Nat} {news : List Value} {ad : Addr} (h : Gr W q e w v xs) (hq : q ≤ w.heap.size) (hm : news.length = m) (hr : Rd w B (some ad) news) (h1 : ∀ u ∈ news, u.oneCell' = true)
    (h63 : xs.length + m ≤ maxLen) (hbytes : (xs.length + m) * bytes ≤ 140737488355328) :
    ∃ v' w', (Builtin.append_ #[ty, ty] ty' #[v, .slice (some ad) m c]).run P w = .ok v' w' ∧ Gr W q e w' v' (xs ++ news) ∧ w.heap.size ≤ w'.heap.size := by
  obtain ⟨v', w', hrun, h2, h3⟩ := run_app (P := P) ty ty' e i z bytes ht hi hz hsize hby hzs (c := c) h.row hm hr h1 h63 hbytes hq
  obtain ⟨v2, w2, hrun2, _, b2, _, b4⟩ := run_append_own_at (P := P) w q ty ty' e i z 1 bytes ht hi hz hsize hby hzs (by omega) v xs.length xs h.row.1 ad m c news (by omega) (fun j u hu => by
    obtain ⟨ad', e1, _, hc⟩ := hr j u hu
    injection e1 with e1
    subst e1
    exact hc) h1 h63 hbytes hq
  rw [hrun] at hrun2
  injection hrun2 with e1 e2
  subst e1
  subst e2
  have hs := h.out.size
  refine ⟨v', w', hrun, ⟨h2, ⟨b2.os.trans h.out.os, b2.tape.trans h.out.tape, b2.output.trans h.out.output, by have := b2.size; omega, fun k hk hn => ?_⟩, fun g hg => ?_⟩, b2.size⟩
  · refine (b2.block k (by omega) (fun e => ?_)).trans (h.out.block k hk hn)
    have := h.own k e.symm
    omega
  · rcases b4 with b4 | b4
    · exact h.own g (b4 ▸ hg)
    · rw [b4] at hg
      injection hg with hg
      exact .inr (by omega)
end
/-- Append's law for a row that grows. -/
theorem wpList_gr {P : Program} {w : World} {ops : Array Oper} {rest : List Oper} {o : Oper} {a : Act} {Q : Exit → Act → World → Prop} (hgd : o.guard = none) (s x : Operand) (t : TypeId)
    (ho : o.op = .call { callee := .builtin .append, args := #[s, x], argTypes := #[t, t] })
    (e : TypeId) (i : TypeInfo) (z : Value) (bytes : Nat) (ht : P.underlying t = some (.slice e)) (hi : P.info? e = some i) (hz : i.zero = some z) (hsize : i.size = 1) (hby : i.bytes = bytes) (hzs : z.cells.size = 1)
    {W : World} {q B m c : Nat} {v : Value} {xs news : List Value} {ad : Addr} (hs : a.eval s = v) (hx : a.eval x = .slice (some ad) m c) (h : Gr W q e w v xs) (hq : q ≤ w.heap.size) (hm : news.length = m) (hr : Rd w B (some ad) news) (h1 : ∀ u ∈ news, u.oneCell' = true)
    (h63 : xs.length + m ≤ maxLen) (hbytes : (xs.length + m) * bytes ≤ 140737488355328)
    (K : ∀ v' w', Gr W q e w' v' (xs ++ news) → w.heap.size ≤ w'.heap.size → wpList P ops Q rest (a.put o.dst v') w') : wpList P ops Q (o :: rest) a w := by
  obtain ⟨v', w', hrun, h2, h3⟩ := run_gr (P := P) t o.type e i z bytes ht hi hz hsize hby hzs (c := c) h hq hm hr h1 h63 hbytes
  refine wpList_plain hgd fun K' hK' => ?_
  unfold Oper.wp
  simp [execOp, ho, resolve, invoke, builtin, hs, hx, hrun, Result.andThen]
  exact hK' _ _ (K v' w' h2 h3)
theorem alloc_new (w : World) (o : Obj) : Below w.heap.size w (w.alloc o) := (Below.refl _ _).alloc (Nat.le_refl _) o
theorem filt_yes {α : Type} {l : List α} {p : α → Bool} {k : Nat} (hk : k < l.length) (h : p l[k] = true) : (l.take (k + 1)).filter p = (l.take k).filter p ++ [l[k]] := by
  rw [List.take_succ_eq_append_getElem hk, List.filter_append]; simp [h]
theorem filt_no {α : Type} {l : List α} {p : α → Bool} {k : Nat} (hk : k < l.length) (h : p l[k] = false) : (l.take (k + 1)).filter p = (l.take k).filter p := by
  rw [List.take_succ_eq_append_getElem hk, List.filter_append]; simp [h]
theorem filt_len {α : Type} (l : List α) (p : α → Bool) (k : Nat) : ((l.take k).filter p).length ≤ k := Nat.le_trans (List.length_filter_le _ _) (by simp; omega)
end Go.Proofs.Ythkigilegnjglaa

/- The law of append of XAppend as a step of a region that draws its order, and words for what such a region keeps: over any program. -/
namespace Go.Proofs.Ythkigilegnjglaa
open Go.ChangeShapes Go.WideShapes Go.ChangeAt Go.RowKit
theorem step_app {P : Program} {w : World} {ops : Array Oper} {o : Oper} {a : Act} {K : Act → World → Prop} {Q : Exit → Act → World → Prop} {E : Prop} (hgd : o.guard = none) (s x : Operand) (t : TypeId)
    (ho : o.op = .call { callee := .builtin .append, args := #[s, x], argTypes := #[t, t] })
    (e : TypeId) (i : TypeInfo) (z : Value) (bytes : Nat) (ht : P.underlying t = some (.slice e)) (hi : P.info? e = some i) (hz : i.zero = some z) (hsize : i.size = 1) (hby : i.bytes = bytes) (hzs : z.cells.size = 1)
    {lo hi' B m c : Nat} {v : Value} {xs news : List Value} {A : Option Addr} (hs : a.eval s = v) (hx : a.eval x = .slice A m c) (hrow : Row w lo hi' e v xs) (hm : news.length = m) (hr : Rd w B A news) (h1 : ∀ u ∈ news, u.oneCell' = true)
    (h63 : xs.length + m ≤ maxLen) (hbytes : (xs.length + m) * bytes ≤ 140737488355328) (hlo : lo ≤ w.heap.size)
    (h : ∀ v' w', Row w' lo w'.heap.size e v' (xs ++ news) → Out lo hi' w w' → K (a.put o.dst v') w') :
    if Region.wanted o (yielded ops a.tmps) = true then Oper.wp P o a w K Q else E := by
  obtain ⟨v', w', hrun, h2, h3⟩ := run_app (P := P) t o.type e i z bytes ht hi hz hsize hby hzs (c := c) hrow hm hr h1 h63 hbytes hlo
  have hw : Region.wanted o (yielded ops a.tmps) = true := by simp [Region.wanted, hgd]
  rw [if_pos hw]
  unfold Oper.wp
  simp [execOp, ho, resolve, invoke, builtin, hs, hx, hrun, Result.andThen]
  exact h v' w' h2 h3
/-- wpList_app where the operation is guarded, and its guard says yes. -/
theorem wpList_app_w {P : Program} {w : World} {ops : Array Oper} {rest : List Oper} {o : Oper} {a : Act} {Q : Exit → Act → World → Prop} (hw : Region.wanted o (yielded ops a.tmps) = true) (s x : Operand) (t : TypeId)
    (ho : o.op = .call { callee := .builtin .append, args := #[s, x], argTypes := #[t, t] })
    (e : TypeId) (i : TypeInfo) (z : Value) (bytes : Nat) (ht : P.underlying t = some (.slice e)) (hi : P.info? e = some i) (hz : i.zero = some z) (hsize : i.size = 1) (hby : i.bytes = bytes) (hzs : z.cells.size = 1)
    {lo hi' B m c : Nat} {v : Value} {xs news : List Value} {A : Option Addr} (hs : a.eval s = v) (hx : a.eval x = .slice A m c) (hrow : Row w lo hi' e v xs) (hm : news.length = m) (hr : Rd w B A news) (h1 : ∀ u ∈ news, u.oneCell' = true)
    (h63 : xs.length + m ≤ maxLen) (hbytes : (xs.length + m) * bytes ≤ 140737488355328) (hlo : lo ≤ w.heap.size)
    (K : ∀ v' w', Row w' lo w'.heap.size e v' (xs ++ news) → Out lo hi' w w' → wpList P ops Q rest (a.put o.dst v') w') : wpList P ops Q (o :: rest) a w := by
  obtain ⟨v', w', hrun, h2, h3⟩ := run_app (P := P) t o.type e i z bytes ht hi hz hsize hby hzs (c := c) hrow hm hr h1 h63 hbytes hlo
  unfold wpList
  rw [if_pos hw]
  refine .inl ?_
  unfold Oper.wp
  simp [execOp, ho, resolve, invoke, builtin, hs, hx, hrun, Result.andThen]
  exact K v' w' h2 h3
section
variable {w w1 w2 : World} {a : Addr} {v : Value}
/-- A cell is as it was, and so is all old memory. -/
theorem hc_call (hl : a.block < w.heap.size) (h : w1.cell? a = some v ∧ Below w.heap.size w w1) (hb : Below w1.heap.size w1 w2) : w2.cell? a = some v ∧ Below w.heap.size w w2 := by
  have h3 := h.2.trans (hb.mono h.2.size)
  exact ⟨(World.cell?_of_block (hb.block _ (Nat.lt_of_lt_of_le hl h.2.size))).trans h.1, h3⟩
theorem hc_start (h : w.cell? a = some v) : w.drew.cell? a = some v ∧ Below w.heap.size w w.drew := ⟨h, (Below.refl _ _).drew⟩
theorem hc_refl (h : w.cell? a = some v) : w.cell? a = some v ∧ Below w.heap.size w w := ⟨h, Below.refl _ _⟩
theorem hc_drew (h : w1.cell? a = some v ∧ Below w.heap.size w w1) : w1.drew.cell? a = some v ∧ Below w.heap.size w w1.drew := ⟨h.1, h.2.drew⟩
theorem hc_alloc (hl : a.block < w.heap.size) (h : w1.cell? a = some v ∧ Below w.heap.size w w1) (o : Obj) : (w1.alloc o).cell? a = some v ∧ Below w.heap.size w (w1.alloc o) :=
  hc_call hl h ((Below.refl _ _).alloc (Nat.le_refl _) _)
theorem hc_out {lo hi : Nat} (hl : a.block < w.heap.size) (h : w1.cell? a = some v ∧ Below w.heap.size w w1) (o : Out lo hi w1 w2) (hlo : w.heap.size ≤ lo) : w2.cell? a = some v ∧ Below w.heap.size w w2 := by
  have hb := o.below hlo h.2.size
  exact ⟨(World.cell?_of_block (hb.block _ hl)).trans h.1, h.2.trans hb⟩
theorem hc_at (h : w1.cell? a = some v) (hb : Below w.heap.size w w1) : w1.cell? a = some v ∧ Below w.heap.size w w1 := ⟨h, hb⟩
theorem hc_atd (h : w1.cell? a = some v) (hb : Below w.heap.size w w1) : w1.drew.cell? a = some v ∧ Below w.heap.size w w1.drew := ⟨h, hb.drew⟩
end
end Go.Proofs.Ythkigilegnjglaa
