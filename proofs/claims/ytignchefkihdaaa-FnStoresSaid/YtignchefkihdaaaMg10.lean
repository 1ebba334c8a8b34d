/- Two rows of ints that a loop makes grow side by side. No conditions. -/
import Derived.Test.YtignchefkihdaaaMg2
import Derived.Test.YtignchefkihdaaaMg4
import Derived.Test.YtignchefkihdaaaMg3
import Derived.Test.YtignchefkihdaaaMg5
import Derived.Test.YtignchefkihdaaaMg8
namespace Go.Proofs.Ytignchefkihdaaa
open Go.ChangeShapes Go.WideShapes Go.ChangeAt Go.RowKit
set_option maxRecDepth 100000
theorem Row.keep1 {w w' : World} {lo hi : Nat} {t : TypeId} {v : Value} {xs : List Value} (h : Row w lo hi t v xs) (hk : ∀ g, v.ownBlock = some g → g < w.heap.size → w'.heap[g]? = w.heap[g]?) : Row w' lo hi t v xs := by
  refine ⟨⟨h.1.1, ?_⟩, h.2⟩
  rcases h.1.2 with hn | ⟨g, cap, cur, rfl, hb, hgg, rest⟩
  · exact .inl hn
  · exact .inr ⟨g, cap, cur, rfl, hb, (hk g rfl (Array.getElem?_eq_some_iff.1 hgg).1).trans hgg, rest⟩
/-- One element is appended: which block alone may turn, and which block the row then has. -/
theorem wpList_appD {P : Program} {w : World} {ops : Array Oper} {rest : List Oper} {o : Oper} {a : Act} {Q : Exit → Act → World → Prop} (hgd : o.guard = none) (s x : Operand) (t : TypeId)
    (ho : o.op = .call { callee := .builtin .append, args := #[s, x], argTypes := #[t, t] })
    (e : TypeId) (i : TypeInfo) (z : Value) (bytes : Nat) (ht : P.underlying t = some (.slice e)) (hi : P.info? e = some i) (hz : i.zero = some z) (hsize : i.size = 1) (hby : i.bytes = bytes) (hzs : z.cells.size = 1)
    {lo hi' B m c : Nat} {v : Value} {xs news : List Value} {ad : Addr} (hs : a.eval s = v) (hx : a.eval x = .slice (some ad) m c) (hrow : Row w lo hi' e v xs) (hm : news.length = m) (hr : Rd w B (some ad) news) (h1 : ∀ u ∈ news, u.oneCell' = true)
    (h63 : xs.length + m ≤ maxLen) (hbytes : (xs.length + m) * bytes ≤ 140737488355328) (hlo : lo ≤ w.heap.size)
    (K : ∀ v' w', Row w' lo w'.heap.size e v' (xs ++ news) → w.heap.size ≤ w'.heap.size → Below lo w w' → (∀ b, b < w.heap.size → v.ownBlock ≠ some b → w'.heap[b]? = w.heap[b]?) → (∀ b, v'.ownBlock = some b → v.ownBlock = some b ∨ b = w.heap.size) → wpList P ops Q rest (a.put o.dst v') w') : wpList P ops Q (o :: rest) a w := by
  obtain ⟨v', w', hrun, h2, h3⟩ := run_app (P := P) t o.type e i z bytes ht hi hz hsize hby hzs (c := c) hrow hm hr h1 h63 hbytes hlo
  obtain ⟨v2, w2, hrun2, _, b2, _, b4⟩ := run_append_own_at (P := P) w lo t o.type e i z 1 bytes ht hi hz hsize hby hzs (by omega) v xs.length xs hrow.1 ad m c news (by omega) (fun j u hu => by
    obtain ⟨ad', e1, _, hc⟩ := hr j u hu
    injection e1 with e1
    subst e1
    exact hc) h1 h63 hbytes hlo
  rw [hrun] at hrun2
  injection hrun2 with e1 e2
  subst e1
  subst e2
  refine wpList_plain hgd fun K' hK' => ?_
  unfold Oper.wp
  simp [execOp, ho, resolve, invoke, builtin, hs, hx, hrun, Result.andThen]
  refine hK' _ _ (K v' w' h2 b2.size ?_ (fun b hb hv => b2.block b hb (fun e => hv e.symm)) (fun b hb => ?_))
  · exact (Below.refl lo w).grown b2 hlo (fun k hk => by
      rcases hrow.1.2 with ⟨rfl, _⟩ | ⟨g, cap, cur, rfl, hg, _⟩
      · simp [Value.ownBlock] at hk
      · have : g = k := by simpa [Value.ownBlock] using hk
        omega)
  · rcases b4 with b4 | b4
    · exact .inl (b4 ▸ hb)
    · rw [b4] at hb
      injection hb with hb
      exact .inr hb.symm
/-- Two rows in blocks of their own from lo on. -/
structure Duo (w : World) (lo : Nat) (a b : Value) (X Y : List Int) : Prop where
  ra : Row w lo w.heap.size 3 a (ivs X)
  rb : Row w lo w.heap.size 3 b (ivs Y)
  ne : ∀ g, a.ownBlock = some g → b.ownBlock ≠ some g
section
variable {w w' : World} {lo : Nat} {a b : Value} {X Y : List Int}
theorem Duo.symm (h : Duo w lo a b X Y) : Duo w lo b a Y X := ⟨h.rb, h.ra, fun g e1 e2 => h.ne g e2 e1⟩
theorem Duo.new (h : Duo w lo a b X Y) (r : Below w.heap.size w w') : Duo w' lo a b X Y := ⟨(h.ra.new r).wide (Nat.le_refl _) r.size, (h.rb.new r).wide (Nat.le_refl _) r.size, h.ne⟩
theorem Duo.only (h : Duo w lo a b X Y) {B : Nat} (g : w.grownBy w' (some B)) (hB : B < lo) : Duo w' lo a b X Y :=
  ⟨(h.ra.out (Out.of_only g) (.inr (by omega))).wide (Nat.le_refl _) g.size, (h.rb.out (Out.of_only g) (.inr (by omega))).wide (Nat.le_refl _) g.size, h.ne⟩
theorem Duo.app (h : Duo w lo a b X Y) {v' : Value} {X' : List Int} (h1 : Row w' lo w'.heap.size 3 v' (ivs X')) (h2 : w.heap.size ≤ w'.heap.size) (h3 : ∀ g, g < w.heap.size → a.ownBlock ≠ some g → w'.heap[g]? = w.heap[g]?) (h4 : ∀ g, v'.ownBlock = some g → a.ownBlock = some g ∨ g = w.heap.size) : Duo w' lo v' b X' Y :=
  ⟨h1, (h.rb.keep1 (fun g e hg => h3 g hg (fun e' => h.ne g e' e))).wide (Nat.le_refl _) h2, fun g e e' => by
    rcases h4 g e with e2 | e2
    · exact h.ne g e2 e'
    · have := h.rb.2 g e'; omega⟩
end
theorem Row.setO {w : World} {lo hi : Nat} {t : TypeId} {g n c i : Nat} {xs : List Value} {v : Value} (h : Row w lo hi t (.slice (some ⟨g, 0, none⟩) n c) xs) : Row (w.setCell ⟨g, i, none⟩ v) lo hi t (.slice (some ⟨g, 0, none⟩) n c) (xs.set i v) := by
  obtain ⟨⟨h1, h2⟩, h3⟩ := h
  rcases h2 with ⟨e, hn⟩ | ⟨g', cap, cur, e, hb, hgg, hnc, hcm, hcs, htk⟩
  · injection e with e1; cases e1
  · injection e with e1 e2 e3
    injection e1 with e1
    injection e1 with e1
    subst e1 e3
    have hst := (World.ownsRow.stored (w := w) (base := lo) (e := t) (size := 1) (g := g) (n := n) (cap := c) (xs := xs) (e2 ▸ ⟨h1, .inr ⟨g, c, cur, rfl, hb, hgg, hnc, hcm, hcs, htk⟩⟩) i v).1
    refine ⟨?_, fun g' hg' => h3 g' hg'⟩
    rw [List.length_set]
    exact e2 ▸ hst
theorem Row.frozO {w : World} {lo hi : Nat} {t : TypeId} {g n c i : Nat} {xs : List Value} (h : Row w lo hi t (.slice (some ⟨g, 0, none⟩) n c) xs) : w.frozen? ⟨g, i, none⟩ = false := by
  obtain ⟨⟨h1, h2⟩, h3⟩ := h
  rcases h2 with ⟨e, hn⟩ | ⟨g', cap, cur, e, hb, hgg, _⟩
  · injection e with e1; cases e1
  · injection e with e1 e2 e3
    injection e1 with e1
    injection e1 with e1
    subst e1
    exact frozen_of_row w g i cur t hgg
theorem ivs_setO (zs : List Int) (k : Nat) (x : Int) : (ivs zs).set k (.int .i64 x) = ivs (zs.set k x) := by simp [ivs, List.map_set]
/-- A row with an element: where it lies. -/
theorem Row.pos {w : World} {lo hi : Nat} {t : TypeId} {v : Value} {xs : List Value} {n : Nat} (h : Row w lo hi t v xs) (hn : xs.length = n) (h0 : 0 < n) : ∃ g c, v = .slice (some ⟨g, 0, none⟩) n c ∧ lo ≤ g ∧ g < hi ∧ g < w.heap.size ∧ n ≤ c ∧ c ≤ maxLen := by
  subst hn
  rcases h.1.2 with ⟨rfl, hn⟩ | ⟨g, cap, cur, rfl, hb, hgg, hnc, hcm, _⟩
  · omega
  · exact ⟨g, cap, rfl, hb, h.2 g rfl, (Array.getElem?_eq_some_iff.1 hgg).1, hnc, hcm⟩
theorem Row.cellO {w : World} {lo hi g n c k : Nat} {t : TypeId} {X : List Int} (h : Row w lo hi t (.slice (some ⟨g, 0, none⟩) n c) (ivs X)) (hk : k < X.length) : w.cell? ⟨g, k, none⟩ = some (.int .i64 X[k]) := by
  obtain ⟨ad, e, _, hc⟩ := ivs_at h.rd' hk
  injection e with e
  subst e
  rwa [Addr.add_lit, Nat.zero_add] at hc
end Go.Proofs.Ytignchefkihdaaa

/- Appending one list of integers to a list of lists: as an operation of a stretch and as a step of a region that draws. -/
namespace Go.Proofs.Ytignchefkihdaaa
open Go.ChangeShapes Go.WideShapes Go.ChangeAt Go.RowKit
section
variable {w : World} {ops : Array Oper} {rest : List Oper} {o : Oper} {a : Act} {Q : Exit → Act → World → Prop}
theorem row_cell {lo hi : Nat} {u : Value} {zs : List Int} (h : Row w lo hi 3 u (ivs zs)) : u.oneCell' = true := by
  obtain ⟨A, c, rfl, _⟩ := h.rd rfl
  rfl
theorem run_appSS (ty : TypeId) {L M lo hi B c : Nat} {v u : Value} {X : List (List Int)} {x : List Int} {ad : Addr} (h : OwnSS w L M v X) (hx : Row w lo hi 3 u (ivs x)) (hr : Rd w B (some ad) [u]) (hd : M ≤ lo) (hLM : L ≤ M) (hn : X.length + 1 ≤ 1099511627777) (hL : L ≤ w.heap.size) :
    ∃ v' w', (Builtin.append_ #[24, 24] ty #[v, .slice (some ad) 1 c]).run Try.prog w = .ok v' w' ∧ OwnSS w' L w'.heap.size v' (X ++ [x]) ∧ Below L w w' := by
  obtain ⟨i0, hi0, hz0, hz1, hz2⟩ := info_parts IntSS_info
  obtain ⟨F, k1, k2, k3⟩ := Row.owns hx
  exact run_appR (R := IntsR .i64 3) (e := 25) (size := 1) (x := x) (us := [u]) (M' := hi) (IntsR.frames _ _) 24 ty i0 _ 24 Try.underlying24 hi0 hz0 hz1 hz2 rfl (by omega) h ⟨F, k1, k2, fun b hb => ⟨by have := (k3 b hb).1; omega, (k3 b hb).2⟩⟩ rfl hr (by simp [row_cell hx]) hLM (by unfold maxLen; omega) (by omega) hL
theorem wpList_appSS (hgd : o.guard = none) (s y : Operand) (ho : o.op = .call { callee := .builtin .append, args := #[s, y], argTypes := #[24, 24] })
    {L M lo hi B c : Nat} {v u : Value} {X : List (List Int)} {x : List Int} {ad : Addr} (hs : a.eval s = v) (hy : a.eval y = .slice (some ad) 1 c) (h : OwnSS w L M v X) (hx : Row w lo hi 3 u (ivs x)) (hr : Rd w B (some ad) [u]) (hd : M ≤ lo) (hLM : L ≤ M) (hn : X.length + 1 ≤ 1099511627777) (hL : L ≤ w.heap.size)
    (K : ∀ v' w', OwnSS w' L w'.heap.size v' (X ++ [x]) → Below L w w' → wpList Try.prog ops Q rest (a.put o.dst v') w') : wpList Try.prog ops Q (o :: rest) a w := by
  obtain ⟨v', w', hrun, h2, h3⟩ := run_appSS o.type (c := c) h hx hr hd hLM hn hL
  refine wpList_plain hgd fun K' hK' => ?_
  unfold Oper.wp
  simp [execOp, ho, resolve, invoke, builtin, hs, hy, hrun, Result.andThen]
  exact hK' _ _ (K v' w' h2 h3)
theorem step_appSS {K : Act → World → Prop} {E : Prop} (hgd : o.guard = none) (s y : Operand) (ho : o.op = .call { callee := .builtin .append, args := #[s, y], argTypes := #[24, 24] })
    {L M lo hi B c : Nat} {v u : Value} {X : List (List Int)} {x : List Int} {ad : Addr} (hs : a.eval s = v) (hy : a.eval y = .slice (some ad) 1 c) (h : OwnSS w L M v X) (hx : Row w lo hi 3 u (ivs x)) (hr : Rd w B (some ad) [u]) (hd : M ≤ lo) (hLM : L ≤ M) (hn : X.length + 1 ≤ 1099511627777) (hL : L ≤ w.heap.size)
    (hK : ∀ v' w', OwnSS w' L w'.heap.size v' (X ++ [x]) → Below L w w' → K (a.put o.dst v') w') : if Region.wanted o (yielded ops a.tmps) = true then Oper.wp Try.prog o a w K Q else E := by
  obtain ⟨v', w', hrun, h2, h3⟩ := run_appSS o.type (c := c) h hx hr hd hLM hn hL
  have hw : Region.wanted o (yielded ops a.tmps) = true := by simp [Region.wanted, hgd]
  rw [if_pos hw]
  unfold Oper.wp
  simp [execOp, ho, resolve, invoke, builtin, hs, hy, hrun, Result.andThen]
  exact hK v' w' h2 h3
end
section
variable {w0 w1 w2 : World} {L : Nat} {a b c : Addr} {u v x : Value}
theorem cell_below (h : w1.cell? a = some v) (hb : Below L w1 w2) (hl : a.block < L) : w2.cell? a = some v := (World.cell?_of_block (hb.block _ hl)).trans h
/-- One cell, or three, below L, and all memory below L as it was. -/
def H1 (L : Nat) (a : Addr) (v : Value) (w0 w : World) : Prop := w.cell? a = some v ∧ Below L w0 w
theorem h1_to (h : w1.cell? a = some v ∧ Below L w0 w1) (hl : a.block < L) (hb : Below L w1 w2) : w2.cell? a = some v ∧ Below L w0 w2 := ⟨cell_below h.1 hb hl, h.2.trans hb⟩
theorem h1_drew (h : w1.cell? a = some v ∧ Below L w0 w1) : w1.drew.cell? a = some v ∧ Below L w0 w1.drew := ⟨h.1, h.2.drew⟩
theorem h1_alloc (h : w1.cell? a = some v ∧ Below L w0 w1) (hl : a.block < L) (hL : L ≤ w0.heap.size) (o : Obj) : (w1.alloc o).cell? a = some v ∧ Below L w0 (w1.alloc o) :=
  h1_to h hl ((Below.refl _ _).alloc (Nat.le_trans hL h.2.size) o)
theorem h2_to (h : w1.cell? a = some u ∧ w1.cell? b = some v ∧ Below L w0 w1) (ha : a.block < L) (hb : b.block < L) (h2 : Below L w1 w2) : w2.cell? a = some u ∧ w2.cell? b = some v ∧ Below L w0 w2 :=
  ⟨cell_below h.1 h2 ha, cell_below h.2.1 h2 hb, h.2.2.trans h2⟩
theorem h2_drew (h : w1.cell? a = some u ∧ w1.cell? b = some v ∧ Below L w0 w1) : w1.drew.cell? a = some u ∧ w1.drew.cell? b = some v ∧ Below L w0 w1.drew := ⟨h.1, h.2.1, h.2.2.drew⟩
theorem h2_alloc (h : w1.cell? a = some u ∧ w1.cell? b = some v ∧ Below L w0 w1) (ha : a.block < L) (hb : b.block < L) (hL : L ≤ w0.heap.size) (o : Obj) : (w1.alloc o).cell? a = some u ∧ (w1.alloc o).cell? b = some v ∧ Below L w0 (w1.alloc o) :=
  h2_to h ha hb ((Below.refl _ _).alloc (Nat.le_trans hL h.2.2.size) o)
theorem h2_set (h : w1.cell? a = some u ∧ w1.cell? b = some v ∧ Below L w0 w1) (ha : a.block < L) (hb : b.block < L) {p : Addr} (hp : L ≤ p.block) (x : Value) : (w1.setCell p x).cell? a = some u ∧ (w1.setCell p x).cell? b = some v ∧ Below L w0 (w1.setCell p x) :=
  h2_to h ha hb ((Below.refl _ _).setCell hp x)
theorem h3_to (h : w1.cell? a = some u ∧ w1.cell? b = some v ∧ w1.cell? c = some x ∧ Below L w0 w1) (ha : a.block < L) (hb : b.block < L) (hc : c.block < L) (h2 : Below L w1 w2) : w2.cell? a = some u ∧ w2.cell? b = some v ∧ w2.cell? c = some x ∧ Below L w0 w2 :=
  ⟨cell_below h.1 h2 ha, cell_below h.2.1 h2 hb, cell_below h.2.2.1 h2 hc, h.2.2.2.trans h2⟩
theorem h3_drew (h : w1.cell? a = some u ∧ w1.cell? b = some v ∧ w1.cell? c = some x ∧ Below L w0 w1) : w1.drew.cell? a = some u ∧ w1.drew.cell? b = some v ∧ w1.drew.cell? c = some x ∧ Below L w0 w1.drew := ⟨h.1, h.2.1, h.2.2.1, h.2.2.2.drew⟩
theorem h3_alloc (h : w1.cell? a = some u ∧ w1.cell? b = some v ∧ w1.cell? c = some x ∧ Below L w0 w1) (ha : a.block < L) (hb : b.block < L) (hc : c.block < L) (hL : L ≤ w0.heap.size) (o : Obj) : (w1.alloc o).cell? a = some u ∧ (w1.alloc o).cell? b = some v ∧ (w1.alloc o).cell? c = some x ∧ Below L w0 (w1.alloc o) :=
  h3_to h ha hb hc ((Below.refl _ _).alloc (Nat.le_trans hL h.2.2.2.size) o)
end
end Go.Proofs.Ytignchefkihdaaa

/- Contracts of the laws' own helpers over Graph: toGraph, eqGraph, markGraph, heldGraph, szGraph. For every graph whose slices have at most 2^40 elements; no other condition. -/
namespace Go.Proofs.Ytignchefkihdaaa
open Go.ChangeShapes Go.WideShapes Go.ChangeAt Go.RowKit
/-- Block g is just the cells cs. -/
def Bx (w : World) (g : Nat) (t : TypeId) (cs : Array Value) : Prop := w.heap[g]? = some (.cells cs t (0, 0))
section
variable {w w' : World} {g : Nat} {t : TypeId} {cs : Array Value}
theorem Bx.lt (h : Bx w g t cs) : g < w.heap.size := (Array.getElem?_eq_some_iff.1 h).1
theorem Bx.made (w : World) (t : TypeId) (cs : Array Value) : Bx (w.alloc (.cells cs t)) w.heap.size t cs := heap_alloc_new w _
theorem Bx.new (h : Bx w g t cs) (hb : Below w.heap.size w w') : Bx w' g t cs := (hb.block g h.lt).trans h
theorem Bx.out {lo hi : Nat} (h : Bx w g t cs) (o : Out lo hi w w') (hd : g < lo ∨ hi ≤ g) : Bx w' g t cs := (o.block g h.lt hd).trans h
theorem Bx.two {a b : Value} (h : Bx w g t #[a, b]) : w.cell? ⟨g, 0, none⟩ = some a ∧ w.cell? ⟨g, 1, none⟩ = some b :=
  ⟨by rw [cell_of_row w g 0 _ t (0, 0) h]; rfl, by rw [cell_of_row w g 1 _ t (0, 0) h]; rfl⟩
theorem trans_new {a b c : World} (h : Below a.heap.size a b) (k : Below b.heap.size b c) : Below a.heap.size a c := h.trans (k.mono h.size)
theorem arg_rd {W a b : World} {A : Option Addr} {X : List (List Int)} (R : RdSS W W.heap.size A X) (B : Below W.heap.size W a) (h : Below a.heap.size a b) : RdSS b b.heap.size A X :=
  (R.below (B.trans (h.mono B.size))).more (Nat.le_trans B.size h.size)
end
theorem bcell {W w1 : World} (hb : Below W.heap.size W w1) : (∀ b o, b < W.heap.size → w1.cell? ⟨b, o, none⟩ = W.cell? ⟨b, o, none⟩) ∧ (∀ b o, b < W.heap.size → w1.frozen? ⟨b, o, none⟩ = W.frozen? ⟨b, o, none⟩) :=
  ⟨fun b o h => hb.cell (p := ⟨b, o, none⟩) h, fun b o h => hb.frozen (p := ⟨b, o, none⟩) h⟩
theorem OwnSS.setFar {w : World} {lo hi : Nat} {v : Value} {X : List (List Int)} (h : OwnSS w lo hi v X) {p : Addr} (hp : p.block < lo ∨ hi ≤ p.block) (u : Value) : OwnSS (w.setCell p u) lo hi v X :=
  Owns.keep h SSR_frames fun b h1 h2 _ => Below.heap_setCell w p u b (by omega)
/-- A graph whose slices are new is returned. -/
def FreshG (N : Int) (X : List (List Int)) (w : World) (e : Ending) (w' : World) : Prop :=
  ∃ v, e = .returned (.agg #[.int .i64 N, v]) ∧ OwnSS w' w.heap.size w'.heap.size v X ∧ Below w.heap.size w w'
def MarkedG (q : Int) (lo hi : Nat) (v : Value) (X : List (List Int)) (w : World) (e : Ending) (w' : World) : Prop :=
  e = .returned (.int .i64 q) ∧ OwnSS w' lo hi v X ∧ Out lo hi w w'
/-- What is left of q when a slice's elements are counted off. -/
def szd (q : Int) (n : Nat) : Int := if q - (n : Int) < 0 then -1 else q - (n : Int)
/-- Either all is counted, or there is too much. -/
def SzP (q : Int) (X : List (List Int)) (w : World) (e : Ending) (w' : World) : Prop :=
  ∃ r : Int, e = .returned (.int .i64 r) ∧ Below w.heap.size w w' ∧ (r = -1 ∨ 0 ≤ r ∧ r + (X.length : Int) + (psum X X.length : Int) ≤ q)
end Go.Proofs.Ytignchefkihdaaa
