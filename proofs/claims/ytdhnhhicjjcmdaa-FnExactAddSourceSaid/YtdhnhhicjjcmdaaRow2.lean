/- Words for slices of structs of two integers, over any program: their cells (t2s), what such a slice reads as, a row of them that the call made, append and a store into a field. No conditions but the machine's bound on bytes. -/
import Derived.Test.YtdhnhhicjjcmdaaAppend
import Derived.Test.YtdhnhhicjjcmdaaRow3
import Derived.Laws.Slices
namespace Go.Proofs.Ytdhnhhicjjcmdaa
open Go.ChangeShapes Go.WideShapes Go.ChangeAt Go.RowKit
/-- What a struct of two integers holds. -/
abbrev T2 := Int × Int
/-- The cells of a list of structs. -/
def t2s (X : List T2) : List Value := X.flatMap fun p => [.int .i64 p.1, .int .i64 p.2]
theorem t2s_cons (p : T2) (X : List T2) : t2s (p :: X) = .int .i64 p.1 :: .int .i64 p.2 :: t2s X := rfl
theorem t2s_app (X Y : List T2) : t2s (X ++ Y) = t2s X ++ t2s Y := by simp [t2s]
theorem t2s_len : ∀ X : List T2, (t2s X).length = X.length * 2
  | [] => rfl
  | p :: X => by rw [t2s_cons]; simp [t2s_len X]; omega
theorem t2s_get : ∀ (X : List T2) (k : Nat) (h : k < X.length), (t2s X)[k * 2]? = some (.int .i64 X[k].1) ∧ (t2s X)[k * 2 + 1]? = some (.int .i64 X[k].2)
  | p :: X, 0, _ => ⟨rfl, rfl⟩
  | p :: X, k + 1, h => by
    have := t2s_get X k (by simpa using h)
    rw [t2s_cons, show (k + 1) * 2 = k * 2 + 1 + 1 by omega]
    simpa using this
theorem t2s_one (X : List T2) : ∀ u ∈ t2s X, u.oneCell' = true := by
  intro u hu
  unfold t2s at hu
  obtain ⟨p, _, hp⟩ := List.mem_flatMap.1 hu
  simp at hp
  rcases hp with rfl | rfl <;> rfl
theorem t2s_take (X : List T2) (k : Nat) : (t2s X).take (k * 2) = t2s (X.take k) := by
  induction X generalizing k with
  | nil => simp [t2s]
  | cons p X ih =>
    cases k with
    | zero => rfl
    | succ k =>
      rw [t2s_cons, List.take_succ_cons, t2s_cons, show (k + 1) * 2 = k * 2 + 1 + 1 by omega, List.take_succ_cons, List.take_succ_cons, ih k]
theorem t2s_drop (X : List T2) (k : Nat) : (t2s X).drop (k * 2) = t2s (X.drop k) := by
  induction X generalizing k with
  | nil => simp [t2s]
  | cons p X ih =>
    cases k with
    | zero => rfl
    | succ k =>
      rw [t2s_cons, List.drop_succ_cons, show (k + 1) * 2 = k * 2 + 1 + 1 by omega, List.drop_succ_cons, List.drop_succ_cons, ih k]
theorem t2_at {w : World} {B : Nat} {A : Option Addr} {X : List T2} (h : Rd w B A (t2s X)) {k : Nat} (hk : k < X.length) :
    ∃ ad, A = some ad ∧ ad.block < B ∧ w.cell? (ad.add (k * 2)) = some (.int .i64 X[k].1) ∧ w.cell? (ad.add (k * 2 + 1)) = some (.int .i64 X[k].2) := by
  obtain ⟨g0, g1⟩ := t2s_get X k hk
  obtain ⟨ad, rfl, hb, h0⟩ := h _ _ g0
  obtain ⟨a1, e1, _, h1⟩ := h _ _ g1
  injection e1 with e1
  subst e1
  exact ⟨_, rfl, hb, h0, h1⟩
/-- The cells of element k, as the walk writes their addresses: p is the element's. -/
theorem t2_cells {w : World} {B : Nat} {A : Option Addr} {X : List T2} (h : Rd w B A (t2s X)) {k : Nat} (hk : k < X.length) :
    ∃ ad p, A = some ad ∧ ad.add (k * 2) = p ∧ p.block < B ∧ w.cell? p = some (.int .i64 X[k].1) ∧ w.cell? ⟨p.block, p.off + 1, none⟩ = some (.int .i64 X[k].2) := by
  obtain ⟨ad, rfl, hb, h0, h1⟩ := t2_at h hk
  rw [add_part ad (k * 2) 0] at h1
  exact ⟨ad, _, rfl, rfl, by rw [add_blk]; exact hb, h0, h1⟩
/-- A row of structs of type t that lies in one of the blocks lo to hi, written by nobody else. -/
def Row2 (w : World) (lo hi : Nat) (t : TypeId) (v : Value) (X : List T2) : Prop := w.ownsRow lo t 2 v X.length (t2s X) ∧ ∀ g, v.ownBlock = some g → g < hi
section
variable {w w' : World} {B lo hi lo' hi' : Nat} {t : TypeId} {v : Value} {X : List T2}
theorem Row2.keep (h : Row2 w lo hi t v X) (hk : ∀ b, lo ≤ b → b < hi → b < w.heap.size → w'.heap[b]? = w.heap[b]?) : Row2 w' lo hi t v X := by
  refine ⟨⟨h.1.1, ?_⟩, h.2⟩
  rcases h.1.2 with hn | ⟨g, cap, cur, rfl, hb, hgg, rest⟩
  · exact .inl hn
  · exact .inr ⟨g, cap, cur, rfl, hb, (hk g hb (h.2 g rfl) (Array.getElem?_eq_some_iff.1 hgg).1).trans hgg, rest⟩
theorem Row2.below (h : Row2 w lo hi t v X) (hb : Below B w w') (hB : hi ≤ B) : Row2 w' lo hi t v X := h.keep fun b _ h2 _ => hb.block b (by omega)
theorem Row2.new (h : Row2 w lo hi t v X) (hb : Below w.heap.size w w') : Row2 w' lo hi t v X := h.keep fun b _ _ h3 => hb.block b h3
theorem Row2.out (h : Row2 w lo hi t v X) (o : Out lo' hi' w w') (hd : hi ≤ lo' ∨ hi' ≤ lo) : Row2 w' lo hi t v X := h.keep fun b h1 h2 h3 => o.block b h3 (by omega)
theorem Row2.wide (h : Row2 w lo hi t v X) (h1 : lo' ≤ lo) (h2 : hi ≤ hi') : Row2 w lo' hi' t v X := by
  refine ⟨⟨h.1.1, ?_⟩, fun g hg => by have := h.2 g hg; omega⟩
  rcases h.1.2 with hn | ⟨g, cap, cur, e, hb, rest⟩
  · exact .inl hn
  · exact .inr ⟨g, cap, cur, e, by omega, rest⟩
theorem Row2.drewN (h : Row2 w lo hi t v X) (n : Nat) : Row2 (w.drewN n) lo hi t v X := h
theorem Row2.rd (h : Row2 w lo hi t v X) {n : Nat} (hn : X.length = n) : ∃ A c, v = .slice A n c ∧ Rd w hi A (t2s X) ∧ n ≤ c ∧ c ≤ maxLen := by
  subst hn
  rcases h.1.2 with ⟨rfl, hn⟩ | ⟨g, cap, cur, rfl, hb, hgg, hnc, hcm, hcs, htk⟩
  · have : X = [] := List.eq_nil_of_length_eq_zero hn
    subst this
    exact ⟨none, 0, rfl, Rd.nil, Nat.le_refl _, Nat.zero_le _⟩
  · refine ⟨some ⟨g, 0, none⟩, cap, rfl, fun j u hu => ⟨_, rfl, h.2 g rfl, ?_⟩, hnc, hcm⟩
    exact h.1.cells (g := g) rfl j u hu
theorem Row2.nil : Row2 w lo hi t (.slice none 0 0) [] := ⟨World.ownsRow_nil _ _ _ _, fun g hg => by simp [Value.ownBlock] at hg⟩
theorem Row2.rd' {n c : Nat} {A : Option Addr} (h : Row2 w lo hi t (.slice A n c) X) : Rd w hi A (t2s X) := by
  obtain ⟨A', c', h1, h2, _, _⟩ := h.rd (n := X.length) rfl
  injection h1 with e1 e2 e3
  subst e1
  exact h2
theorem Row2.base (h : Row2 w lo hi t v X) {n : Nat} (hn : X.length = n) (hp : 0 < n) : ∃ g c, v = .slice (some ⟨g, 0, none⟩) n c ∧ lo ≤ g ∧ g < hi ∧ g < w.heap.size ∧ n ≤ c ∧ c ≤ maxLen := by
  subst hn
  rcases h.1.2 with ⟨rfl, hn⟩ | ⟨g, cap, cur, rfl, hb, hgg, hnc, hcm, _⟩
  · omega
  · exact ⟨g, cap, rfl, hb, h.2 g rfl, (Array.getElem?_eq_some_iff.1 hgg).1, hnc, hcm⟩
theorem Row2.of_own {n : Nat} (h : w.ownsRow lo t 2 v n (t2s X)) : Row2 w lo w.heap.size t v X := by
  have hn : n = X.length := by have := h.1; rw [t2s_len] at this; omega
  subst hn
  exact ⟨h, fun g hg => (h.lt g hg).2⟩
theorem Row2.made (lo : Nat) (cs : Array Value) (n : Nat) (hlo : lo ≤ w.heap.size) (hX : cs.toList = t2s X) (hn : X.length = n) (hm : n ≤ maxLen) : Row2 (w.alloc (.cells cs t)) lo (w.heap.size + 1) t (.slice (some ⟨w.heap.size, 0, none⟩) n n) X := by
  subst hn
  have hl : cs.size = X.length * 2 := by rw [← t2s_len, ← hX]; simp
  refine ⟨⟨t2s_len X, .inr ⟨w.heap.size, X.length, cs, rfl, hlo, heap_alloc_new w _, Nat.le_refl _, hm, hl, ?_⟩⟩, fun g hg => ?_⟩
  · rw [hX, List.take_of_length_le (by rw [t2s_len]; exact Nat.le_refl _)]
  · simp [Value.ownBlock] at hg
    omega
/-- A store into field j of element i. -/
theorem Row2.set {g n c i : Nat} {u : Value} {Y : List T2} (h : Row2 w lo hi t (.slice (some ⟨g, 0, none⟩) n c) X) (hY : (t2s X).set i u = t2s Y) : Row2 (w.setCell ⟨g, i, none⟩ u) lo hi t (.slice (some ⟨g, 0, none⟩) n c) Y := by
  obtain ⟨⟨h1, h2⟩, h3⟩ := h
  have hl : X.length = Y.length := by
    have : ((t2s X).set i u).length = (t2s Y).length := by rw [hY]
    rw [List.length_set, t2s_len, t2s_len] at this
    omega
  rcases h2 with ⟨e, hn⟩ | ⟨g', cap, cur, e, hb, hgg, hnc, hcm, hcs, htk⟩
  · injection e with e1; cases e1
  · injection e with e1 e2 e3
    injection e1 with e1
    injection e1 with e1
    subst e1 e3
    have hst := (World.ownsRow.stored (w := w) (base := lo) (e := t) (size := 2) (g := g) (n := n) (cap := c) (xs := t2s X) (e2 ▸ ⟨h1, .inr ⟨g, c, cur, rfl, hb, hgg, hnc, hcm, hcs, htk⟩⟩) i u).1
    rw [hY] at hst
    refine ⟨?_, fun g' hg' => h3 g' hg'⟩
    rw [← hl]
    exact e2 ▸ hst
theorem Row2.froz {g n c i : Nat} (h : Row2 w lo hi t (.slice (some ⟨g, 0, none⟩) n c) X) : w.frozen? ⟨g, i, none⟩ = false := by
  obtain ⟨⟨h1, h2⟩, h3⟩ := h
  rcases h2 with ⟨e, hn⟩ | ⟨g', cap, cur, e, hb, hgg, _⟩
  · injection e with e1; cases e1
  · injection e with e1 e2 e3
    injection e1 with e1
    injection e1 with e1
    subst e1
    exact frozen_of_row w g i cur t hgg
end
section
variable {P : Program} {w : World}
theorem run_app2 (t ty e : TypeId) (i : TypeInfo) (z : Value) (bytes : Nat) (ht : P.underlying t = some (.slice e)) (hi : P.info? e = some i) (hz : i.zero = some z) (hsize : i.size = 2) (hby : i.bytes = bytes) (hzs : z.cells.size = 2)
    {lo hi' B m c : Nat} {v : Value} {X Y : List T2} {A : Option Addr} (hrow : Row2 w lo hi' e v X) (hm : Y.length = m) (hr : Rd w B A (t2s Y))
    (h63 : X.length + m ≤ maxLen) (hbytes : (X.length + m) * bytes ≤ 140737488355328) (hlo : lo ≤ w.heap.size) :
    ∃ v' w', (Builtin.append_ #[t, t] ty #[v, .slice A m c]).run P w = .ok v' w' ∧ Row2 w' lo w'.heap.size e v' (X ++ Y) ∧ Out lo hi' w w' := by
  rcases A with _ | ad
  · have hn : Y = [] := by
      cases Y with
      | nil => rfl
      | cons p Y => obtain ⟨ad, h, _⟩ := hr 0 _ rfl; cases h
    subst hn
    obtain rfl : m = 0 := hm.symm
    refine ⟨v, w, run_app_nil t ty e i ht hi hrow.1, ?_, Out.refl⟩
    rw [List.append_nil]
    exact ⟨hrow.1, fun g hg => (hrow.1.lt g hg).2⟩
  · have hcells : ∀ j u, (t2s Y)[j]? = some u → w.cell? (ad.add j) = some u := fun j u hu => by
      obtain ⟨ad', h, _, hc⟩ := hr j u hu
      injection h with h
      subst h
      exact hc
    obtain ⟨v', w', hrun, h2, h3, _, h5⟩ := run_append_own_at (P := P) w lo t ty e i z 2 bytes ht hi hz hsize hby hzs (by omega) v X.length (t2s X) hrow.1 ad m c (t2s Y) (by rw [t2s_len, hm]) hcells (t2s_one Y) h63 hbytes hlo
    rw [← t2s_app] at h2
    refine ⟨v', w', hrun, Row2.of_own h2, ⟨h3.os, h3.tape, h3.output, h3.size, fun k hk hne => h3.block k hk (fun e => ?_)⟩⟩
    have h6 := hrow.2 k e.symm
    have h7 := (hrow.1.lt k e.symm).1
    omega
theorem wpList_app2s {ops : Array Oper} {rest : List Oper} {o : Oper} {a : Act} {Q : Exit → Act → World → Prop} (hgd : o.guard = none) (s x : Operand) (t : TypeId)
    (ho : o.op = .call { callee := .builtin .append, args := #[s, x], argTypes := #[t, t] })
    (e : TypeId) (i : TypeInfo) (z : Value) (bytes : Nat) (ht : P.underlying t = some (.slice e)) (hi : P.info? e = some i) (hz : i.zero = some z) (hsize : i.size = 2) (hby : i.bytes = bytes) (hzs : z.cells.size = 2)
    {lo hi' B m c : Nat} {v : Value} {X Y : List T2} {A : Option Addr} (hs : a.eval s = v) (hx : a.eval x = .slice A m c) (hrow : Row2 w lo hi' e v X) (hm : Y.length = m) (hr : Rd w B A (t2s Y))
    (h63 : X.length + m ≤ maxLen) (hbytes : (X.length + m) * bytes ≤ 140737488355328) (hlo : lo ≤ w.heap.size)
    (K : ∀ v' w', Row2 w' lo w'.heap.size e v' (X ++ Y) → Out lo hi' w w' → wpList P ops Q rest (a.put o.dst v') w') : wpList P ops Q (o :: rest) a w := by
  obtain ⟨v', w', hrun, h2, h3⟩ := run_app2 (P := P) t o.type e i z bytes ht hi hz hsize hby hzs (c := c) hrow hm hr h63 hbytes hlo
  refine wpList_plain hgd fun K' hK' => ?_
  unfold Oper.wp
  simp [execOp, ho, resolve, invoke, builtin, hs, hx, hrun, Result.andThen]
  exact hK' _ _ (K v' w' h2 h3)
end
/-- The address of 's[k:]'. -/
def tlA2 (A : Option Addr) (k c : Nat) : Option Addr := if c = k then A else A.map (·.add (k * 2))
theorem Rd.tl2 {w : World} {B k c : Nat} {A : Option Addr} {X : List T2} (h : Rd w B A (t2s X)) (hc : X.length ≤ c) : Rd w B (tlA2 A k c) (t2s (X.drop k)) := fun j u hu => by
  unfold tlA2
  rw [← t2s_drop, List.getElem?_drop] at hu
  by_cases e : c = k
  · rw [List.getElem?_eq_none (by rw [t2s_len]; omega)] at hu; cases hu
  · obtain ⟨ad, rfl, hb, hc'⟩ := h _ u hu
    rw [if_neg e]
    refine ⟨ad.add (k * 2), rfl, by rw [add_blk]; exact hb, ?_⟩
    have e1 : (ad.add (k * 2)).add j = ad.add (k * 2 + j) := by
      unfold Addr.add
      by_cases hi : k * 2 = 0 <;> by_cases hj : j = 0 <;> simp [hi, hj, Nat.add_assoc]
    rw [e1]; exact hc'
theorem Rd.hd2 {w : World} {B k : Nat} {A : Option Addr} {X : List T2} (h : Rd w B A (t2s X)) : Rd w B A (t2s (X.take k)) := fun j u hu => by
  rw [← t2s_take, List.getElem?_take] at hu
  split at hu
  · exact h j u hu
  · cases hu
theorem run_from2 {P : Program} (W : World) (t e : TypeId) (ht : P.underlying t = some (.slice e)) (hz : ∀ w, (Go.sizeOf e).run P w = .ok 2 w) (A : Option Addr) {n c k : Nat} (h1 : k ≤ n) (_h2 : n ≤ c) :
    (Instr.slice t (.slice A n c) (some (.int .i64 (k : Int))) none none).run P W = .ok (.slice (tlA2 A k c) (n - k) (c - k)) W := by
  have ht' : P.underlying t = some (.slice (P.elem t)) := by simp [Program.elem, ht]
  have he : P.elem t = e := by simp [Program.elem, ht]
  rw [run_slice_l W t _ _ _ ht' .i64 _ (by omega) (by omega), he, hz]
  unfold tlA2
  by_cases h0 : c = k
  · simp [Result.andThen, sliced, h0]
  · simp [Result.andThen, sliced, h0]
theorem run_to2 {P : Program} (W : World) (t e : TypeId) (ht : P.underlying t = some (.slice e)) (hz : ∀ w, (Go.sizeOf e).run P w = .ok 2 w) (A : Option Addr) {n c k : Nat} (h1 : k ≤ c) :
    (Instr.slice t (.slice A n c) none (some (.int .i64 (k : Int))) none).run P W = .ok (.slice A k c) W := by
  have ht' : P.underlying t = some (.slice (P.elem t)) := by simp [Program.elem, ht]
  have he : P.elem t = e := by simp [Program.elem, ht]
  rw [run_slice_h W t _ _ _ ht' .i64 _ (by omega) (by omega), he, hz]
  by_cases h0 : c = 0
  · simp [Result.andThen, sliced, h0]
  · cases A <;> simp [Result.andThen, sliced, h0, Addr.add]
end Go.Proofs.Ytdhnhhicjjcmdaa
