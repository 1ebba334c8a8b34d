/- Words for slices of structs of three integers, over any program: their cells (t3s), what such a slice reads as, a row of them that the call made, append and a store into a field. No conditions but the machine's bound on bytes. -/
import Derived.Test.YtdhnhhicjjcmdaaAppend
import Derived.Test.YtdhnhhicjjcmdaaBurMath
import Derived.Laws.Slices
namespace Go.Proofs.Ytdhnhhicjjcmdaa
open Go.ChangeShapes Go.WideShapes Go.ChangeAt Go.RowKit
/-- The cells of a list of structs. -/
def t3s (X : List T3) : List Value := X.flatMap fun p => [.int .i64 p.1, .int .i64 p.2.1, .int .i64 p.2.2]
theorem t3s_cons (p : T3) (X : List T3) : t3s (p :: X) = .int .i64 p.1 :: .int .i64 p.2.1 :: .int .i64 p.2.2 :: t3s X := rfl
theorem t3s_app (X Y : List T3) : t3s (X ++ Y) = t3s X ++ t3s Y := by simp [t3s]
theorem t3s_len : ∀ X : List T3, (t3s X).length = X.length * 3
  | [] => rfl
  | p :: X => by rw [t3s_cons]; simp [t3s_len X]; omega
theorem t3s_get : ∀ (X : List T3) (k : Nat) (h : k < X.length), (t3s X)[k * 3]? = some (.int .i64 X[k].1) ∧ (t3s X)[k * 3 + 1]? = some (.int .i64 X[k].2.1) ∧ (t3s X)[k * 3 + 2]? = some (.int .i64 X[k].2.2)
  | p :: X, 0, _ => ⟨rfl, rfl, rfl⟩
  | p :: X, k + 1, h => by
    have := t3s_get X k (by simpa using h)
    rw [t3s_cons, show (k + 1) * 3 = k * 3 + 1 + 1 + 1 by omega]
    simpa using this
theorem t3s_one (X : List T3) : ∀ u ∈ t3s X, u.oneCell' = true := by
  intro u hu
  unfold t3s at hu
  obtain ⟨p, _, hp⟩ := List.mem_flatMap.1 hu
  simp at hp
  rcases hp with rfl | rfl | rfl <;> rfl
theorem t3s_take (X : List T3) (k : Nat) : (t3s X).take (k * 3) = t3s (X.take k) := by
  induction X generalizing k with
  | nil => simp [t3s]
  | cons p X ih =>
    cases k with
    | zero => rfl
    | succ k =>
      rw [t3s_cons, List.take_succ_cons, t3s_cons, show (k + 1) * 3 = k * 3 + 1 + 1 + 1 by omega, List.take_succ_cons, List.take_succ_cons, List.take_succ_cons, ih k]
theorem t3s_drop (X : List T3) (k : Nat) : (t3s X).drop (k * 3) = t3s (X.drop k) := by
  induction X generalizing k with
  | nil => simp [t3s]
  | cons p X ih =>
    cases k with
    | zero => rfl
    | succ k =>
      rw [t3s_cons, List.drop_succ_cons, show (k + 1) * 3 = k * 3 + 1 + 1 + 1 by omega, List.drop_succ_cons, List.drop_succ_cons, List.drop_succ_cons, ih k]
theorem t3_at {w : World} {B : Nat} {A : Option Addr} {X : List T3} (h : Rd w B A (t3s X)) {k : Nat} (hk : k < X.length) :
    ∃ ad, A = some ad ∧ ad.block < B ∧ w.cell? (ad.add (k * 3)) = some (.int .i64 X[k].1) ∧ w.cell? (ad.add (k * 3 + 1)) = some (.int .i64 X[k].2.1) ∧ w.cell? (ad.add (k * 3 + 2)) = some (.int .i64 X[k].2.2) := by
  obtain ⟨g0, g1, g2⟩ := t3s_get X k hk
  obtain ⟨ad, rfl, hb, h0⟩ := h _ _ g0
  obtain ⟨a1, e1, _, h1⟩ := h _ _ g1
  obtain ⟨a2, e2, _, h2⟩ := h _ _ g2
  injection e1 with e1
  injection e2 with e2
  subst e1 e2
  exact ⟨_, rfl, hb, h0, h1, h2⟩
theorem add_part (a : Addr) (k j : Nat) : a.add (k + (j + 1)) = ⟨(a.add k).block, (a.add k).off + (j + 1), none⟩ := by
  unfold Addr.add
  by_cases hk : k = 0 <;> simp [hk, Nat.add_assoc]
/-- The cells of element k, as the walk writes their addresses: p is the element's. -/
theorem t3_cells {w : World} {B : Nat} {A : Option Addr} {X : List T3} (h : Rd w B A (t3s X)) {k : Nat} (hk : k < X.length) :
    ∃ ad p, A = some ad ∧ ad.add (k * 3) = p ∧ p.block < B ∧ w.cell? p = some (.int .i64 X[k].1) ∧ w.cell? ⟨p.block, p.off + 1, none⟩ = some (.int .i64 X[k].2.1) ∧ w.cell? ⟨p.block, p.off + 2, none⟩ = some (.int .i64 X[k].2.2) := by
  obtain ⟨ad, rfl, hb, h0, h1, h2⟩ := t3_at h hk
  rw [add_part ad (k * 3) 0] at h1
  rw [add_part ad (k * 3) 1] at h2
  exact ⟨ad, _, rfl, rfl, by rw [add_blk]; exact hb, h0, h1, h2⟩
/-- A row of structs of type t that lies in one of the blocks lo to hi, written by nobody else. -/
def Row3 (w : World) (lo hi : Nat) (t : TypeId) (v : Value) (X : List T3) : Prop := w.ownsRow lo t 3 v X.length (t3s X) ∧ ∀ g, v.ownBlock = some g → g < hi
section
variable {w w' : World} {B lo hi lo' hi' : Nat} {t : TypeId} {v : Value} {X : List T3}
theorem Row3.keep (h : Row3 w lo hi t v X) (hk : ∀ b, lo ≤ b → b < hi → b < w.heap.size → w'.heap[b]? = w.heap[b]?) : Row3 w' lo hi t v X := by
  refine ⟨⟨h.1.1, ?_⟩, h.2⟩
  rcases h.1.2 with hn | ⟨g, cap, cur, rfl, hb, hgg, rest⟩
  · exact .inl hn
  · exact .inr ⟨g, cap, cur, rfl, hb, (hk g hb (h.2 g rfl) (Array.getElem?_eq_some_iff.1 hgg).1).trans hgg, rest⟩
theorem Row3.below (h : Row3 w lo hi t v X) (hb : Below B w w') (hB : hi ≤ B) : Row3 w' lo hi t v X := h.keep fun b _ h2 _ => hb.block b (by omega)
theorem Row3.new (h : Row3 w lo hi t v X) (hb : Below w.heap.size w w') : Row3 w' lo hi t v X := h.keep fun b _ _ h3 => hb.block b h3
theorem Row3.out (h : Row3 w lo hi t v X) (o : Out lo' hi' w w') (hd : hi ≤ lo' ∨ hi' ≤ lo) : Row3 w' lo hi t v X := h.keep fun b h1 h2 h3 => o.block b h3 (by omega)
theorem Row3.wide (h : Row3 w lo hi t v X) (h1 : lo' ≤ lo) (h2 : hi ≤ hi') : Row3 w lo' hi' t v X := by
  refine ⟨⟨h.1.1, ?_⟩, fun g hg => by have := h.2 g hg; omega⟩
  rcases h.1.2 with hn | ⟨g, cap, cur, e, hb, rest⟩
  · exact .inl hn
  · exact .inr ⟨g, cap, cur, e, by omega, rest⟩
theorem Row3.drewN (h : Row3 w lo hi t v X) (n : Nat) : Row3 (w.drewN n) lo hi t v X := h
theorem Row3.rd (h : Row3 w lo hi t v X) {n : Nat} (hn : X.length = n) : ∃ A c, v = .slice A n c ∧ Rd w hi A (t3s X) ∧ n ≤ c ∧ c ≤ maxLen := by
  subst hn
  rcases h.1.2 with ⟨rfl, hn⟩ | ⟨g, cap, cur, rfl, hb, hgg, hnc, hcm, hcs, htk⟩
  · have : X = [] := List.eq_nil_of_length_eq_zero hn
    subst this
    exact ⟨none, 0, rfl, Rd.nil, Nat.le_refl _, Nat.zero_le _⟩
  · refine ⟨some ⟨g, 0, none⟩, cap, rfl, fun j u hu => ⟨_, rfl, h.2 g rfl, ?_⟩, hnc, hcm⟩
    exact h.1.cells (g := g) rfl j u hu
theorem Row3.nil : Row3 w lo hi t (.slice none 0 0) [] := ⟨World.ownsRow_nil _ _ _ _, fun g hg => by simp [Value.ownBlock] at hg⟩
theorem Row3.rd' {n c : Nat} {A : Option Addr} (h : Row3 w lo hi t (.slice A n c) X) : Rd w hi A (t3s X) := by
  obtain ⟨A', c', h1, h2, _, _⟩ := h.rd (n := X.length) rfl
  injection h1 with e1 e2 e3
  subst e1
  exact h2
theorem Row3.base (h : Row3 w lo hi t v X) {n : Nat} (hn : X.length = n) (hp : 0 < n) : ∃ g c, v = .slice (some ⟨g, 0, none⟩) n c ∧ lo ≤ g ∧ g < hi ∧ g < w.heap.size ∧ n ≤ c ∧ c ≤ maxLen := by
  subst hn
  rcases h.1.2 with ⟨rfl, hn⟩ | ⟨g, cap, cur, rfl, hb, hgg, hnc, hcm, _⟩
  · omega
  · exact ⟨g, cap, rfl, hb, h.2 g rfl, (Array.getElem?_eq_some_iff.1 hgg).1, hnc, hcm⟩
theorem Row3.of_own {n : Nat} (h : w.ownsRow lo t 3 v n (t3s X)) : Row3 w lo w.heap.size t v X := by
  have hn : n = X.length := by have := h.1; rw [t3s_len] at this; omega
  subst hn
  exact ⟨h, fun g hg => (h.lt g hg).2⟩
theorem Row3.made (lo : Nat) (cs : Array Value) (n : Nat) (hlo : lo ≤ w.heap.size) (hX : cs.toList = t3s X) (hn : X.length = n) (hm : n ≤ maxLen) : Row3 (w.alloc (.cells cs t)) lo (w.heap.size + 1) t (.slice (some ⟨w.heap.size, 0, none⟩) n n) X := by
  subst hn
  have hl : cs.size = X.length * 3 := by rw [← t3s_len, ← hX]; simp
  refine ⟨⟨t3s_len X, .inr ⟨w.heap.size, X.length, cs, rfl, hlo, heap_alloc_new w _, Nat.le_refl _, hm, hl, ?_⟩⟩, fun g hg => ?_⟩
  · rw [hX, List.take_of_length_le (by rw [t3s_len]; exact Nat.le_refl _)]
  · simp [Value.ownBlock] at hg
    omega
/-- A store into field j of element i. -/
theorem Row3.set {g n c i : Nat} {u : Value} {Y : List T3} (h : Row3 w lo hi t (.slice (some ⟨g, 0, none⟩) n c) X) (hY : (t3s X).set i u = t3s Y) : Row3 (w.setCell ⟨g, i, none⟩ u) lo hi t (.slice (some ⟨g, 0, none⟩) n c) Y := by
  obtain ⟨⟨h1, h2⟩, h3⟩ := h
  have hl : X.length = Y.length := by
    have : ((t3s X).set i u).length = (t3s Y).length := by rw [hY]
    rw [List.length_set, t3s_len, t3s_len] at this
    omega
  rcases h2 with ⟨e, hn⟩ | ⟨g', cap, cur, e, hb, hgg, hnc, hcm, hcs, htk⟩
  · injection e with e1; cases e1
  · injection e with e1 e2 e3
    injection e1 with e1
    injection e1 with e1
    subst e1 e3
    have hst := (World.ownsRow.stored (w := w) (base := lo) (e := t) (size := 3) (g := g) (n := n) (cap := c) (xs := t3s X) (e2 ▸ ⟨h1, .inr ⟨g, c, cur, rfl, hb, hgg, hnc, hcm, hcs, htk⟩⟩) i u).1
    rw [hY] at hst
    refine ⟨?_, fun g' hg' => h3 g' hg'⟩
    rw [← hl]
    exact e2 ▸ hst
theorem Row3.froz {g n c i : Nat} (h : Row3 w lo hi t (.slice (some ⟨g, 0, none⟩) n c) X) : w.frozen? ⟨g, i, none⟩ = false := by
  obtain ⟨⟨h1, h2⟩, h3⟩ := h
  rcases h2 with ⟨e, hn⟩ | ⟨g', cap, cur, e, hb, hgg, _⟩
  · injection e with e1; cases e1
  · injection e with e1 e2 e3
    injection e1 with e1
    injection e1 with e1
    subst e1
    exact frozen_of_row w g i cur t hgg
end
section
variable {P : Program} {w : World}
theorem run_app3 (t ty e : TypeId) (i : TypeInfo) (z : Value) (bytes : Nat) (ht : P.underlying t = some (.slice e)) (hi : P.info? e = some i) (hz : i.zero = some z) (hsize : i.size = 3) (hby : i.bytes = bytes) (hzs : z.cells.size = 3)
    {lo hi' B m c : Nat} {v : Value} {X Y : List T3} {A : Option Addr} (hrow : Row3 w lo hi' e v X) (hm : Y.length = m) (hr : Rd w B A (t3s Y))
    (h63 : X.length + m ≤ maxLen) (hbytes : (X.length + m) * bytes ≤ 140737488355328) (hlo : lo ≤ w.heap.size) :
    ∃ v' w', (Builtin.append_ #[t, t] ty #[v, .slice A m c]).run P w = .ok v' w' ∧ Row3 w' lo w'.heap.size e v' (X ++ Y) ∧ Out lo hi' w w' := by
  rcases A with _ | ad
  · have hn : Y = [] := by
      cases Y with
      | nil => rfl
      | cons p Y => obtain ⟨ad, h, _⟩ := hr 0 _ rfl; cases h
    subst hn
    obtain rfl : m = 0 := hm.symm
    refine ⟨v, w, run_app_nil t ty e i ht hi hrow.1, ?_, Out.refl⟩
    rw [List.append_nil]
    exact ⟨hrow.1, fun g hg => (hrow.1.lt g hg).2⟩
  · have hcells : ∀ j u, (t3s Y)[j]? = some u → w.cell? (ad.add j) = some u := fun j u hu => by
      obtain ⟨ad', h, _, hc⟩ := hr j u hu
      injection h with h
      subst h
      exact hc
    obtain ⟨v', w', hrun, h2, h3, _, h5⟩ := run_append_own_at (P := P) w lo t ty e i z 3 bytes ht hi hz hsize hby hzs (by omega) v X.length (t3s X) hrow.1 ad m c (t3s Y) (by rw [t3s_len, hm]) hcells (t3s_one Y) h63 hbytes hlo
    rw [← t3s_app] at h2
    refine ⟨v', w', hrun, Row3.of_own h2, ⟨h3.os, h3.tape, h3.output, h3.size, fun k hk hne => h3.block k hk (fun e => ?_)⟩⟩
    have h6 := hrow.2 k e.symm
    have h7 := (hrow.1.lt k e.symm).1
    omega
theorem wpList_app3 {ops : Array Oper} {rest : List Oper} {o : Oper} {a : Act} {Q : Exit → Act → World → Prop} (hgd : o.guard = none) (s x : Operand) (t : TypeId)
    (ho : o.op = .call { callee := .builtin .append, args := #[s, x], argTypes := #[t, t] })
    (e : TypeId) (i : TypeInfo) (z : Value) (bytes : Nat) (ht : P.underlying t = some (.slice e)) (hi : P.info? e = some i) (hz : i.zero = some z) (hsize : i.size = 3) (hby : i.bytes = bytes) (hzs : z.cells.size = 3)
    {lo hi' B m c : Nat} {v : Value} {X Y : List T3} {A : Option Addr} (hs : a.eval s = v) (hx : a.eval x = .slice A m c) (hrow : Row3 w lo hi' e v X) (hm : Y.length = m) (hr : Rd w B A (t3s Y))
    (h63 : X.length + m ≤ maxLen) (hbytes : (X.length + m) * bytes ≤ 140737488355328) (hlo : lo ≤ w.heap.size)
    (K : ∀ v' w', Row3 w' lo w'.heap.size e v' (X ++ Y) → Out lo hi' w w' → wpList P ops Q rest (a.put o.dst v') w') : wpList P ops Q (o :: rest) a w := by
  obtain ⟨v', w', hrun, h2, h3⟩ := run_app3 (P := P) t o.type e i z bytes ht hi hz hsize hby hzs (c := c) hrow hm hr h63 hbytes hlo
  refine wpList_plain hgd fun K' hK' => ?_
  unfold Oper.wp
  simp [execOp, ho, resolve, invoke, builtin, hs, hx, hrun, Result.andThen]
  exact hK' _ _ (K v' w' h2 h3)
end
/-- The address of 's[k:]'. -/
def tlA3 (A : Option Addr) (k c : Nat) : Option Addr := if c = k then A else A.map (·.add (k * 3))
theorem Rd.tl3 {w : World} {B k c : Nat} {A : Option Addr} {X : List T3} (h : Rd w B A (t3s X)) (hc : X.length ≤ c) : Rd w B (tlA3 A k c) (t3s (X.drop k)) := fun j u hu => by
  unfold tlA3
  rw [← t3s_drop, List.getElem?_drop] at hu
  by_cases e : c = k
  · rw [List.getElem?_eq_none (by rw [t3s_len]; omega)] at hu; cases hu
  · obtain ⟨ad, rfl, hb, hc'⟩ := h _ u hu
    rw [if_neg e]
    refine ⟨ad.add (k * 3), rfl, by rw [add_blk]; exact hb, ?_⟩
    have e1 : (ad.add (k * 3)).add j = ad.add (k * 3 + j) := by
      unfold Addr.add
      by_cases hi : k * 3 = 0 <;> by_cases hj : j = 0 <;> simp [hi, hj, Nat.add_assoc]
    rw [e1]; exact hc'
theorem Rd.hd3 {w : World} {B k : Nat} {A : Option Addr} {X : List T3} (h : Rd w B A (t3s X)) : Rd w B A (t3s (X.take k)) := fun j u hu => by
  rw [← t3s_take, List.getElem?_take] at hu
  split at hu
  · exact h j u hu
  · cases hu
theorem run_from3 {P : Program} (W : World) (t e : TypeId) (ht : P.underlying t = some (.slice e)) (hz : ∀ w, (Go.sizeOf e).run P w = .ok 3 w) (A : Option Addr) {n c k : Nat} (h1 : k ≤ n) (_h2 : n ≤ c) :
    (Instr.slice t (.slice A n c) (some (.int .i64 (k : Int))) none none).run P W = .ok (.slice (tlA3 A k c) (n - k) (c - k)) W := by
  have ht' : P.underlying t = some (.slice (P.elem t)) := by simp [Program.elem, ht]
  have he : P.elem t = e := by simp [Program.elem, ht]
  rw [run_slice_l W t _ _ _ ht' .i64 _ (by omega) (by omega), he, hz]
  unfold tlA3
  by_cases h0 : c = k
  · simp [Result.andThen, sliced, h0]
  · simp [Result.andThen, sliced, h0]
theorem run_to3 {P : Program} (W : World) (t e : TypeId) (ht : P.underlying t = some (.slice e)) (hz : ∀ w, (Go.sizeOf e).run P w = .ok 3 w) (A : Option Addr) {n c k : Nat} (h1 : k ≤ c) :
    (Instr.slice t (.slice A n c) none (some (.int .i64 (k : Int))) none).run P W = .ok (.slice A k c) W := by
  have ht' : P.underlying t = some (.slice (P.elem t)) := by simp [Program.elem, ht]
  have he : P.elem t = e := by simp [Program.elem, ht]
  rw [run_slice_h W t _ _ _ ht' .i64 _ (by omega) (by omega), he, hz]
  by_cases h0 : c = 0
  · simp [Result.andThen, sliced, h0]
  · cases A <;> simp [Result.andThen, sliced, h0, Addr.add]
end Go.Proofs.Ytdhnhhicjjcmdaa
