/- Rows of structs of any number of cells (an encoding E), over any program: what such a slice reads as, a row that the call made, append. No conditions but the machine's bound on bytes. -/
import Derived.Test.YtdhnhhicjjcmdaaAppend
import Derived.Test.YtdhnhhicjjcmdaaRow3
import Derived.Laws.Slices
namespace Go.Proofs.Ytdhnhhicjjcmdaa
open Go.ChangeShapes Go.WideShapes Go.ChangeAt Go.RowKit
/-- How a datum lies in cells. -/
structure CEnc (α : Type) where
  enc : α → List Value
  size : Nat
  len : ∀ x, (enc x).length = size
  one : ∀ x, ∀ u ∈ enc x, u.oneCell' = true
  pos : 0 < size
section
variable {α : Type} (E : CEnc α)
def flE (X : List α) : List Value := X.flatMap E.enc
theorem flE_app (X Y : List α) : flE E (X ++ Y) = flE E X ++ flE E Y := by simp [flE]
theorem flE_one (x : α) : flE E [x] = E.enc x := by simp [flE]
theorem flE_len : ∀ X : List α, (flE E X).length = X.length * E.size
  | [] => by simp [flE]
  | x :: X => by
    have h : flE E (x :: X) = E.enc x ++ flE E X := rfl
    rw [h, List.length_append, E.len, flE_len X, List.length_cons, Nat.succ_mul]; omega
theorem flE_get : ∀ (X : List α) (k j : Nat) (h : k < X.length), j < E.size → (flE E X)[k * E.size + j]? = (E.enc X[k])[j]?
  | x :: X, 0, j, _, hj => by
    have h : flE E (x :: X) = E.enc x ++ flE E X := rfl
    rw [h, Nat.zero_mul, Nat.zero_add, List.getElem?_append_left (by rw [E.len]; exact hj)]
    rfl
  | x :: X, k + 1, j, hk, hj => by
    have h : flE E (x :: X) = E.enc x ++ flE E X := rfl
    have e : (k + 1) * E.size + j - (E.enc x).length = k * E.size + j := by rw [E.len, Nat.succ_mul]; omega
    rw [h, List.getElem?_append_right (by rw [E.len, Nat.succ_mul]; omega), e, flE_get X k j (by simpa using hk) hj]
    rfl
theorem flE_ones (X : List α) : ∀ u ∈ flE E X, u.oneCell' = true := by
  intro u hu
  unfold flE at hu
  obtain ⟨x, _, hx⟩ := List.mem_flatMap.1 hu
  exact E.one x u hx
theorem flE_take (X : List α) (k : Nat) : flE E (X.take k) = (flE E X).take (k * E.size) := by
  have h := flE_app E (X.take k) (X.drop k)
  rw [List.take_append_drop] at h
  by_cases hk : k ≤ X.length
  · have hl : (flE E (X.take k)).length = k * E.size := by rw [flE_len, List.length_take, Nat.min_eq_left hk]
    rw [h, ← hl, List.take_left]
  · rw [List.take_of_length_le (show X.length ≤ k by omega), List.take_of_length_le]
    rw [flE_len]
    exact Nat.mul_le_mul_right _ (by omega)
theorem flE_drop (X : List α) (k : Nat) : flE E (X.drop k) = (flE E X).drop (k * E.size) := by
  have h := flE_app E (X.take k) (X.drop k)
  rw [List.take_append_drop] at h
  have h2 := flE_take E X k
  have h3 := List.take_append_drop (k * E.size) (flE E X)
  rw [← h2] at h3
  rw [← h3] at h
  exact (List.append_cancel_left h).symm
/-- The cells of element k. -/
theorem rdE_at {w : World} {B : Nat} {A : Option Addr} {X : List α} (h : Rd w B A (flE E X)) {k : Nat} (hk : k < X.length) :
    ∃ ad p : Addr, A = some ad ∧ ad.add (k * E.size) = p ∧ p.block < B ∧ (∀ v : Value, (E.enc X[k])[0]? = some v → w.cell? p = some v) ∧ ∀ (j : Nat) (v : Value), (E.enc X[k])[j + 1]? = some v → w.cell? ⟨p.block, p.off + (j + 1), none⟩ = some v := by
  have h0 : (E.enc X[k])[0]? = some ((E.enc X[k])[0]'(by rw [E.len]; exact E.pos)) := List.getElem?_eq_getElem _
  obtain ⟨ad, rfl, hb, _⟩ := h _ _ ((flE_get E X k 0 hk E.pos).trans h0)
  have hc : ∀ (j : Nat) (v : Value), (E.enc X[k])[j]? = some v → w.cell? (ad.add (k * E.size + j)) = some v := fun j v hv => by
    have hj : j < E.size := by rw [← E.len X[k]]; exact (List.getElem?_eq_some_iff.1 hv).1
    obtain ⟨a1, e1, _, h1⟩ := h _ _ ((flE_get E X k j hk hj).trans hv)
    injection e1 with e1
    subst e1
    exact h1
  refine ⟨ad, _, rfl, rfl, by rw [add_blk]; exact hb, fun v hv => by simpa using hc 0 v hv, fun j v hv => ?_⟩
  rw [← add_part]
  exact hc (j + 1) v hv
/-- A row of structs of type t that lies in one of the blocks lo to hi, written by nobody else. -/
def RowG (w : World) (lo hi : Nat) (t : TypeId) (v : Value) (X : List α) : Prop := w.ownsRow lo t E.size v X.length (flE E X) ∧ ∀ g, v.ownBlock = some g → g < hi
end
section
variable {α : Type} {E : CEnc α} {w w' : World} {B lo hi lo' hi' : Nat} {t : TypeId} {v : Value} {X : List α}
theorem RowG.keep (h : RowG E w lo hi t v X) (hk : ∀ b, lo ≤ b → b < hi → b < w.heap.size → w'.heap[b]? = w.heap[b]?) : RowG E w' lo hi t v X := by
  refine ⟨⟨h.1.1, ?_⟩, h.2⟩
  rcases h.1.2 with hn | ⟨g, cap, cur, rfl, hb, hgg, rest⟩
  · exact .inl hn
  · exact .inr ⟨g, cap, cur, rfl, hb, (hk g hb (h.2 g rfl) (Array.getElem?_eq_some_iff.1 hgg).1).trans hgg, rest⟩
theorem RowG.below (h : RowG E w lo hi t v X) (hb : Below B w w') (hB : hi ≤ B) : RowG E w' lo hi t v X := h.keep fun b _ h2 _ => hb.block b (by omega)
theorem RowG.new (h : RowG E w lo hi t v X) (hb : Below w.heap.size w w') : RowG E w' lo hi t v X := h.keep fun b _ _ h3 => hb.block b h3
theorem RowG.out (h : RowG E w lo hi t v X) (o : Out lo' hi' w w') (hd : hi ≤ lo' ∨ hi' ≤ lo) : RowG E w' lo hi t v X := h.keep fun b h1 h2 h3 => o.block b h3 (by omega)
theorem RowG.wide (h : RowG E w lo hi t v X) (h1 : lo' ≤ lo) (h2 : hi ≤ hi') : RowG E w lo' hi' t v X := by
  refine ⟨⟨h.1.1, ?_⟩, fun g hg => by have := h.2 g hg; omega⟩
  rcases h.1.2 with hn | ⟨g, cap, cur, e, hb, rest⟩
  · exact .inl hn
  · exact .inr ⟨g, cap, cur, e, by omega, rest⟩
theorem RowG.drewN (h : RowG E w lo hi t v X) (n : Nat) : RowG E (w.drewN n) lo hi t v X := h
theorem RowG.rd (h : RowG E w lo hi t v X) {n : Nat} (hn : X.length = n) : ∃ A c, v = .slice A n c ∧ Rd w hi A (flE E X) ∧ n ≤ c ∧ c ≤ maxLen := by
  subst hn
  rcases h.1.2 with ⟨rfl, hn⟩ | ⟨g, cap, cur, rfl, hb, hgg, hnc, hcm, hcs, htk⟩
  · have : X = [] := List.eq_nil_of_length_eq_zero hn
    subst this
    exact ⟨none, 0, rfl, Rd.nil, Nat.le_refl _, Nat.zero_le _⟩
  · refine ⟨some ⟨g, 0, none⟩, cap, rfl, fun j u hu => ⟨_, rfl, h.2 g rfl, ?_⟩, hnc, hcm⟩
    exact h.1.cells (g := g) rfl j u hu
theorem RowG.nil : RowG E w lo hi t (.slice none 0 0) [] := ⟨World.ownsRow_nil _ _ _ _, fun g hg => by simp [Value.ownBlock] at hg⟩
theorem RowG.rd' {n c : Nat} {A : Option Addr} (h : RowG E w lo hi t (.slice A n c) X) : Rd w hi A (flE E X) := by
  obtain ⟨A', c', h1, h2, _, _⟩ := h.rd (n := X.length) rfl
  injection h1 with e1 e2 e3
  subst e1
  exact h2
theorem RowG.of_own {n : Nat} (h : w.ownsRow lo t E.size v n (flE E X)) : RowG E w lo w.heap.size t v X := by
  have hn : n = X.length := by
    have := h.1
    rw [flE_len] at this
    exact (Nat.eq_of_mul_eq_mul_right E.pos this).symm
  subst hn
  exact ⟨h, fun g hg => (h.lt g hg).2⟩
theorem RowG.made (lo : Nat) (cs : Array Value) (n : Nat) (hlo : lo ≤ w.heap.size) (hX : cs.toList = flE E X) (hn : X.length = n) (hm : n ≤ maxLen) : RowG E (w.alloc (.cells cs t)) lo (w.heap.size + 1) t (.slice (some ⟨w.heap.size, 0, none⟩) n n) X := by
  subst hn
  have hl : cs.size = X.length * E.size := by rw [← flE_len, ← hX]; simp
  refine ⟨⟨flE_len E X, .inr ⟨w.heap.size, X.length, cs, rfl, hlo, heap_alloc_new w _, Nat.le_refl _, hm, hl, ?_⟩⟩, fun g hg => ?_⟩
  · rw [hX, List.take_of_length_le (by rw [flE_len]; exact Nat.le_refl _)]
  · simp [Value.ownBlock] at hg
    omega
end
section
variable {α : Type} {E : CEnc α} {P : Program} {w : World}
theorem run_appG (t ty e : TypeId) (i : TypeInfo) (z : Value) (bytes : Nat) (ht : P.underlying t = some (.slice e)) (hi : P.info? e = some i) (hz : i.zero = some z) (hsize : i.size = E.size) (hby : i.bytes = bytes) (hzs : z.cells.size = E.size)
    {lo hi' B m c : Nat} {v : Value} {X Y : List α} {A : Option Addr} (hrow : RowG E w lo hi' e v X) (hm : Y.length = m) (hr : Rd w B A (flE E Y))
    (h63 : X.length + m ≤ maxLen) (hbytes : (X.length + m) * bytes ≤ 140737488355328) (hlo : lo ≤ w.heap.size) :
    ∃ v' w', (Builtin.append_ #[t, t] ty #[v, .slice A m c]).run P w = .ok v' w' ∧ RowG E w' lo w'.heap.size e v' (X ++ Y) ∧ Out lo hi' w w' := by
  rcases A with _ | ad
  · have hn : Y = [] := by
      cases Y with
      | nil => rfl
      | cons p Y =>
        have h0 : (flE E (p :: Y))[0 * E.size + 0]? = (E.enc p)[0]? := flE_get E (p :: Y) 0 0 (by simp) E.pos
        have h1 : (E.enc p)[0]? = some ((E.enc p)[0]'(by rw [E.len]; exact E.pos)) := List.getElem?_eq_getElem _
        obtain ⟨ad, h, _⟩ := hr _ _ (h0.trans h1)
        cases h
    subst hn
    obtain rfl : m = 0 := hm.symm
    refine ⟨v, w, run_app_nil t ty e i ht hi hrow.1, ?_, Out.refl⟩
    rw [List.append_nil]
    exact ⟨hrow.1, fun g hg => (hrow.1.lt g hg).2⟩
  · have hcells : ∀ j u, (flE E Y)[j]? = some u → w.cell? (ad.add j) = some u := fun j u hu => by
      obtain ⟨ad', h, _, hc⟩ := hr j u hu
      injection h with h
      subst h
      exact hc
    obtain ⟨v', w', hrun, h2, h3, _, h5⟩ := run_append_own_at (P := P) w lo t ty e i z E.size bytes ht hi hz hsize hby hzs E.pos v X.length (flE E X) hrow.1 ad m c (flE E Y) (by rw [flE_len, hm]) hcells (flE_ones E Y) h63 hbytes hlo
    rw [← flE_app] at h2
    refine ⟨v', w', hrun, RowG.of_own h2, ⟨h3.os, h3.tape, h3.output, h3.size, fun k hk hne => h3.block k hk (fun e => ?_)⟩⟩
    have h6 := hrow.2 k e.symm
    have h7 := (hrow.1.lt k e.symm).1
    omega
theorem wpList_appG {ops : Array Oper} {rest : List Oper} {o : Oper} {a : Act} {Q : Exit → Act → World → Prop} (hgd : o.guard = none) (s x : Operand) (t : TypeId)
    (ho : o.op = .call { callee := .builtin .append, args := #[s, x], argTypes := #[t, t] })
    (e : TypeId) (i : TypeInfo) (z : Value) (bytes : Nat) (ht : P.underlying t = some (.slice e)) (hi : P.info? e = some i) (hz : i.zero = some z) (hsize : i.size = E.size) (hby : i.bytes = bytes) (hzs : z.cells.size = E.size)
    {lo hi' B m c : Nat} {v : Value} {X Y : List α} {A : Option Addr} (hs : a.eval s = v) (hx : a.eval x = .slice A m c) (hrow : RowG E w lo hi' e v X) (hm : Y.length = m) (hr : Rd w B A (flE E Y))
    (h63 : X.length + m ≤ maxLen) (hbytes : (X.length + m) * bytes ≤ 140737488355328) (hlo : lo ≤ w.heap.size)
    (K : ∀ v' w', RowG E w' lo w'.heap.size e v' (X ++ Y) → Out lo hi' w w' → wpList P ops Q rest (a.put o.dst v') w') : wpList P ops Q (o :: rest) a w := by
  obtain ⟨v', w', hrun, h2, h3⟩ := run_appG (P := P) t o.type e i z bytes ht hi hz hsize hby hzs (c := c) hrow hm hr h63 hbytes hlo
  refine wpList_plain hgd fun K' hK' => ?_
  unfold Oper.wp
  simp [execOp, ho, resolve, invoke, builtin, hs, hx, hrun, Result.andThen]
  exact hK' _ _ (K v' w' h2 h3)
theorem step_appG {ops : Array Oper} {o : Oper} {a : Act} {Q : Exit → Act → World → Prop} {K : Act → World → Prop} {Z : Prop} (hgd : o.guard = none) (s x : Operand) (t : TypeId)
    (ho : o.op = .call { callee := .builtin .append, args := #[s, x], argTypes := #[t, t] })
    (e : TypeId) (i : TypeInfo) (z : Value) (bytes : Nat) (ht : P.underlying t = some (.slice e)) (hi : P.info? e = some i) (hz : i.zero = some z) (hsize : i.size = E.size) (hby : i.bytes = bytes) (hzs : z.cells.size = E.size)
    {lo hi' B m c : Nat} {v : Value} {X Y : List α} {A : Option Addr} (hs : a.eval s = v) (hx : a.eval x = .slice A m c) (hrow : RowG E w lo hi' e v X) (hm : Y.length = m) (hr : Rd w B A (flE E Y))
    (h63 : X.length + m ≤ maxLen) (hbytes : (X.length + m) * bytes ≤ 140737488355328) (hlo : lo ≤ w.heap.size)
    (hK : ∀ v' w', RowG E w' lo w'.heap.size e v' (X ++ Y) → Out lo hi' w w' → K (a.put o.dst v') w') : if Region.wanted o (yielded ops a.tmps) = true then Oper.wp P o a w K Q else Z := by
  obtain ⟨v', w', hrun, h2, h3⟩ := run_appG (P := P) t o.type e i z bytes ht hi hz hsize hby hzs (c := c) hrow hm hr h63 hbytes hlo
  have hw : Region.wanted o (yielded ops a.tmps) = true := by simp [Region.wanted, hgd]
  rw [if_pos hw]
  unfold Oper.wp
  simp [execOp, ho, resolve, invoke, builtin, hs, hx, hrun, Result.andThen]
  exact hK v' w' h2 h3
end
end Go.Proofs.Ytdhnhhicjjcmdaa
