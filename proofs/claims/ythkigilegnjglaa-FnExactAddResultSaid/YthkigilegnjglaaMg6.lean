/- Contracts of AppendBytes and ReadBytes and of their models. No conditions but that each byte lies in 0 to 255 and that the slices have at most 2^45 elements. -/
import Derived.Test.YthkigilegnjglaaMg5
import Derived.Test.YthkigilegnjglaaMg4
import Derived.Test.YthkigilegnjglaaMg1
namespace Go.Proofs.Ythkigilegnjglaa
open Go.ChangeShapes Go.WideShapes Go.ChangeAt Go.RowKit
theorem Rd.cut {w : World} {B : Nat} {ad : Addr} {xs : List Value} (h : Rd w B (some ad) xs) (q m : Nat) : Rd w B (some (ad.add q)) ((xs.drop q).take m) := fun j u hu => by
  have hj : xs[q + j]? = some u := by
    rcases Nat.lt_or_ge j m with hm | hm
    · rw [List.getElem?_take, if_pos hm, List.getElem?_drop] at hu; exact hu
    · rw [List.getElem?_take, if_neg (by omega)] at hu; cases hu
  obtain ⟨ad', e, hb, hc⟩ := h _ u hj
  injection e with e
  subst e
  exact ⟨_, rfl, by rw [add_blk]; exact hb, by rw [add_add_]; exact hc⟩
theorem bvs_cut (zs : List Int) (q m : Nat) : ((bvs zs).drop q).take m = bvs ((zs.drop q).take m) := by simp [bvs]
/-- As Fresh, with two more results. -/
def Fresh3 (t : TypeId) (xs : List Value) (a b : Value) (w : World) (e : Ending) (w' : World) : Prop :=
  ∃ v, e = .returned (.tuple #[v, a, b]) ∧ Row w' w.heap.size w'.heap.size t v xs ∧ Below w.heap.size w w'
/-- What ReadBytes answers: the bytes and the offset behind them. -/
def rbAt (zs : List Int) (o most : Int) : Option (List Int × Int) :=
  match rvAt zs o with
  | none => none
  | some (m, j) => if most < m ∨ (zs.length : Int) - (o + j) < m then none else some ((zs.drop (o.toNat + j)).take m.toNat, o + j + m)
theorem rbAt_len {zs ys : List Int} {o most r : Int} (h : rbAt zs o most = some (ys, r)) : ys.length ≤ zs.length := by
  unfold rbAt at h
  split at h
  · cases h
  · split at h
    · cases h
    · injection h with h
      injection h with h _
      rw [← h, List.length_take, List.length_drop]; omega
theorem Fresh3.nil {w w' : World} {t : TypeId} {a b : Value} (hb : Below w.heap.size w w') {cs : Array Value} (hcs : cs = #[]) : Fresh3 t (bvs []) a b w (.returned (.tuple #[.slice (some ⟨w'.heap.size, 0, none⟩) 0 0, a, b])) (w'.alloc (.cells cs t)) := by
  subst hcs
  exact ⟨_, rfl, (Row.made (w := w') w.heap.size #[] 0 t hb.size rfl (Nat.zero_le _)).wide (Nat.le_refl _) (by simp), hb.alloc hb.size _⟩
end Go.Proofs.Ythkigilegnjglaa

/- Contracts of the draws that give slices of bytes: which bytes is left open, but each lies in 0 to 255 and the row is new. Condition: the cursor lies in a block of its own (Cur). -/
namespace Go.Proofs.Ythkigilegnjglaa
open Go.ChangeShapes Go.WideShapes Go.ChangeAt Go.RowKit
theorem code8_of_rd {W : World} {A : Option Addr} {zs : List Int} (hr : Rd W W.heap.size A (bvs zs)) (hb : ∀ x ∈ zs, 0 ≤ x ∧ x ≤ 255) (hn : zs.length ≤ 9223372036854775807) : Code8 W A zs.length :=
  ⟨hn, fun hp => by
    obtain ⟨ad, e, h1, _⟩ := bvs_at hr hp
    refine ⟨ad, e, h1, fun j hj => ?_⟩
    obtain ⟨ad', e', _, hc⟩ := bvs_at hr hj
    have : ad' = ad := by rw [e] at e'; injection e' with e'; exact e'.symm
    subst this
    have hx := hb zs[j] (List.getElem_mem _)
    exact ⟨_, hx.1, hx.2, hc⟩⟩
theorem Out.of_only {w w' : World} {B : Nat} (h : w.grownBy w' (some B)) : Out B (B + 1) w w' := ⟨h.os, h.tape, h.output, h.size, fun k hk hne => h.block k hk (fun e => by injection e; omega)⟩
theorem only_new {a w : World} (h : Below a.heap.size a w) (r : Option Nat) : a.grownBy w r := ⟨h.os, h.tape, h.output, h.size, fun i hi _ => h.block i hi⟩
theorem only_then {a b c : World} {r : Option Nat} (h : a.grownBy b r) (k : Below a.heap.size b c) : a.grownBy c r :=
  ⟨k.os.trans h.os, k.tape.trans h.tape, k.output.trans h.output, Nat.le_trans h.size k.size, fun i hi hne => (k.block i hi).trans (h.block i hi hne)⟩
theorem Cur.below' {w w' : World} {B L : Nat} {A : Option Addr} {n c : Nat} (h : Cur w B A n c) (hb : Below L w w') (hL : B < L) : Cur w' B A n c := h.keep hb.size (fun k hk => hb.block k (by omega))
theorem cur_below {w w1 w2 : World} {B : Nat} (hb : Below w.heap.size w w1) (hg : w1.grownBy w2 (some B)) (hB : w.heap.size ≤ B) : Below w.heap.size w w2 :=
  hb.grown hg hb.size (fun k e => by cases e; exact hB)
/-- m bytes were drawn into a new row. -/
def DrewRow (m : Nat) (B : Nat) (A : Option Addr) (n c : Nat) (w : World) (e : Ending) (w' : World) : Prop :=
  ∃ (ys : List Int) (v : Value), ys.length = m ∧ (∀ x ∈ ys, 0 ≤ x ∧ x ≤ 255) ∧ e = .returned v ∧ Row w' w.heap.size w'.heap.size 5 v (bvs ys) ∧ w.grownBy w' (some B) ∧ Cur w' B A n c
theorem bytes_snoc {ys : List Int} {x : Int} (h : ∀ y ∈ ys, 0 ≤ y ∧ y ≤ 255) (hx : 0 ≤ x ∧ x ≤ 255) : ∀ y ∈ ys ++ [x], 0 ≤ y ∧ y ≤ 255 := by
  intro y hy
  rw [List.mem_append, List.mem_singleton] at hy
  rcases hy with hy | rfl
  · exact h y hy
  · exact hx
/-- A row of bytes and an integer were drawn; nothing old has turned. -/
def DrewBI (P : Int → Prop) (m : Nat) (w : World) (e : Ending) (w' : World) : Prop :=
  ∃ (ys : List Int) (x : Int) (v : Value), ys.length ≤ m ∧ (∀ x ∈ ys, 0 ≤ x ∧ x ≤ 255) ∧ P x ∧ e = .returned (.tuple #[v, .int .i64 x]) ∧ Row w' w.heap.size w'.heap.size 5 v (bvs ys) ∧ Below w.heap.size w w'
/-- Two rows of bytes were drawn; nothing old has turned. -/
def DrewBB (m m' : Nat) (w : World) (e : Ending) (w' : World) : Prop :=
  ∃ (ys zs : List Int) (v v' : Value) (M : Nat), ys.length ≤ m ∧ zs.length ≤ m' ∧ (∀ x ∈ ys, 0 ≤ x ∧ x ≤ 255) ∧ (∀ x ∈ zs, 0 ≤ x ∧ x ≤ 255) ∧ e = .returned (.tuple #[v, v']) ∧ w.heap.size ≤ M ∧ M ≤ w'.heap.size ∧
    Row w' w.heap.size M 5 v (bvs ys) ∧ Row w' M w'.heap.size 5 v' (bvs zs) ∧ Below w.heap.size w w'
end Go.Proofs.Ythkigilegnjglaa

/- Two rows of ints that a loop makes grow side by side. No conditions. -/
namespace Go.Proofs.Ythkigilegnjglaa
open Go.ChangeShapes Go.WideShapes Go.ChangeAt Go.RowKit
set_option maxRecDepth 100000
theorem Row.keep1 {w w' : World} {lo hi : Nat} {t : TypeId} {v : Value} {xs : List Value} (h : Row w lo hi t v xs) (hk : ∀ g, v.ownBlock = some g → g < w.heap.size → w'.heap[g]? = w.heap[g]?) : Row w' lo hi t v xs := by
  refine ⟨⟨h.1.1, ?_⟩, h.2⟩
  rcases h.1.2 with hn | ⟨g, cap, cur, rfl, hb, hgg, rest⟩
  · exact .inl hn
  · exact .inr ⟨g, cap, cur, rfl, hb, (hk g rfl (Array.getElem?_eq_some_iff.1 hgg).1).trans hgg, rest⟩
/-- One element is appended: which block alone may turn, and which block the row then has. -/
theorem wpList_appD {P : Program} {w : World} {ops : Array Oper} {rest : List Oper} {o : Oper} {a : Act} {Q : Exit → Act → World → Prop} (hgd : o.guard = none) (s x : Operand) (t : TypeId)
    (ho : o.op = .call { callee := .builtin .append, args := #[s, x], argTypes := #[t, t] })
    (e : TypeId) (i : TypeInfo) (z : Value) (bytes : Nat) (ht : P.underlying t = some (.slice e)) (hi : P.info? e = some i) (hz : i.zero = some z) (hsize : i.size = 1) (hby : i.bytes = bytes) (hzs : z.cells.size = 1)
    {lo hi' B m c : Nat} {v : Value} {xs news : List Value} {ad : Addr} (hs : a.eval s = v) (hx : a.eval x = .slice (some ad) m c) (hrow : Row w lo hi' e v xs) (hm : news.length = m) (hr : Rd w B (some ad) news) (h1 : ∀ u ∈ news, u.oneCell' = true)
    (h63 : xs.length + m ≤ maxLen) (hbytes : (xs.length + m) * bytes ≤ 140737488355328) (hlo : lo ≤ w.heap.size)
    (K : ∀ v' w', Row w' lo w'.heap.size e v' (xs ++ news) → w.heap.size ≤ w'.heap.size → Below lo w w' → (∀ b, b < w.heap.size → v.ownBlock ≠ some b → w'.heap[b]? = w.heap[b]?) → (∀ b, v'.ownBlock = some b → v.ownBlock = some b ∨ b = w.heap.size) → wpList P ops Q rest (a.put o.dst v') w') : wpList P ops Q (o :: rest) a w := by
  obtain ⟨v', w', hrun, h2, h3⟩ := run_app (P := P) t o.type e i z bytes ht hi hz hsize hby hzs (c := c) hrow hm hr h1 h63 hbytes hlo
  obtain ⟨v2, w2, hrun2, _, b2, _, b4⟩ := run_append_own_at (P := P) w lo t o.type e i z 1 bytes ht hi hz hsize hby hzs (by omega) v xs.length xs hrow.1 ad m c news (by omega) (fun j u hu => by
    obtain ⟨ad', e1, _, hc⟩ := hr j u hu
    injection e1 with e1
    subst e1
    exact hc) h1 h63 hbytes hlo
  rw [hrun] at hrun2
  injection hrun2 with e1 e2
  subst e1
  subst e2
  refine wpList_plain hgd fun K' hK' => ?_
  unfold Oper.wp
  simp [execOp, ho, resolve, invoke, builtin, hs, hx, hrun, Result.andThen]
  refine hK' _ _ (K v' w' h2 b2.size ?_ (fun b hb hv => b2.block b hb (fun e => hv e.symm)) (fun b hb => ?_))
  · exact (Below.refl lo w).grown b2 hlo (fun k hk => by
      rcases hrow.1.2 with ⟨rfl, _⟩ | ⟨g, cap, cur, rfl, hg, _⟩
      · simp [Value.ownBlock] at hk
      · have : g = k := by simpa [Value.ownBlock] using hk
        omega)
  · rcases b4 with b4 | b4
    · exact .inl (b4 ▸ hb)
    · rw [b4] at hb
      injection hb with hb
      exact .inr hb.symm
/-- Two rows in blocks of their own from lo on. -/
structure Duo (w : World) (lo : Nat) (a b : Value) (X Y : List Int) : Prop where
  ra : Row w lo w.heap.size 3 a (ivs X)
  rb : Row w lo w.heap.size 3 b (ivs Y)
  ne : ∀ g, a.ownBlock = some g → b.ownBlock ≠ some g
section
variable {w w' : World} {lo : Nat} {a b : Value} {X Y : List Int}
theorem Duo.symm (h : Duo w lo a b X Y) : Duo w lo b a Y X := ⟨h.rb, h.ra, fun g e1 e2 => h.ne g e2 e1⟩
theorem Duo.new (h : Duo w lo a b X Y) (r : Below w.heap.size w w') : Duo w' lo a b X Y := ⟨(h.ra.new r).wide (Nat.le_refl _) r.size, (h.rb.new r).wide (Nat.le_refl _) r.size, h.ne⟩
theorem Duo.only (h : Duo w lo a b X Y) {B : Nat} (g : w.grownBy w' (some B)) (hB : B < lo) : Duo w' lo a b X Y :=
  ⟨(h.ra.out (Out.of_only g) (.inr (by omega))).wide (Nat.le_refl _) g.size, (h.rb.out (Out.of_only g) (.inr (by omega))).wide (Nat.le_refl _) g.size, h.ne⟩
theorem Duo.app (h : Duo w lo a b X Y) {v' : Value} {X' : List Int} (h1 : Row w' lo w'.heap.size 3 v' (ivs X')) (h2 : w.heap.size ≤ w'.heap.size) (h3 : ∀ g, g < w.heap.size → a.ownBlock ≠ some g → w'.heap[g]? = w.heap[g]?) (h4 : ∀ g, v'.ownBlock = some g → a.ownBlock = some g ∨ g = w.heap.size) : Duo w' lo v' b X' Y :=
  ⟨h1, (h.rb.keep1 (fun g e hg => h3 g hg (fun e' => h.ne g e' e))).wide (Nat.le_refl _) h2, fun g e e' => by
    rcases h4 g e with e2 | e2
    · exact h.ne g e2 e'
    · have := h.rb.2 g e'; omega⟩
end
theorem Row.setO {w : World} {lo hi : Nat} {t : TypeId} {g n c i : Nat} {xs : List Value} {v : Value} (h : Row w lo hi t (.slice (some ⟨g, 0, none⟩) n c) xs) : Row (w.setCell ⟨g, i, none⟩ v) lo hi t (.slice (some ⟨g, 0, none⟩) n c) (xs.set i v) := by
  obtain ⟨⟨h1, h2⟩, h3⟩ := h
  rcases h2 with ⟨e, hn⟩ | ⟨g', cap, cur, e, hb, hgg, hnc, hcm, hcs, htk⟩
  · injection e with e1; cases e1
  · injection e with e1 e2 e3
    injection e1 with e1
    injection e1 with e1
    subst e1 e3
    have hst := (World.ownsRow.stored (w := w) (base := lo) (e := t) (size := 1) (g := g) (n := n) (cap := c) (xs := xs) (e2 ▸ ⟨h1, .inr ⟨g, c, cur, rfl, hb, hgg, hnc, hcm, hcs, htk⟩⟩) i v).1
    refine ⟨?_, fun g' hg' => h3 g' hg'⟩
    rw [List.length_set]
    exact e2 ▸ hst
theorem Row.frozO {w : World} {lo hi : Nat} {t : TypeId} {g n c i : Nat} {xs : List Value} (h : Row w lo hi t (.slice (some ⟨g, 0, none⟩) n c) xs) : w.frozen? ⟨g, i, none⟩ = false := by
  obtain ⟨⟨h1, h2⟩, h3⟩ := h
  rcases h2 with ⟨e, hn⟩ | ⟨g', cap, cur, e, hb, hgg, _⟩
  · injection e with e1; cases e1
  · injection e with e1 e2 e3
    injection e1 with e1
    injection e1 with e1
    subst e1
    exact frozen_of_row w g i cur t hgg
theorem ivs_setO (zs : List Int) (k : Nat) (x : Int) : (ivs zs).set k (.int .i64 x) = ivs (zs.set k x) := by simp [ivs, List.map_set]
/-- A row with an element: where it lies. -/
theorem Row.pos {w : World} {lo hi : Nat} {t : TypeId} {v : Value} {xs : List Value} {n : Nat} (h : Row w lo hi t v xs) (hn : xs.length = n) (h0 : 0 < n) : ∃ g c, v = .slice (some ⟨g, 0, none⟩) n c ∧ lo ≤ g ∧ g < hi ∧ g < w.heap.size ∧ n ≤ c ∧ c ≤ maxLen := by
  subst hn
  rcases h.1.2 with ⟨rfl, hn⟩ | ⟨g, cap, cur, rfl, hb, hgg, hnc, hcm, _⟩
  · omega
  · exact ⟨g, cap, rfl, hb, h.2 g rfl, (Array.getElem?_eq_some_iff.1 hgg).1, hnc, hcm⟩
theorem Row.cellO {w : World} {lo hi g n c k : Nat} {t : TypeId} {X : List Int} (h : Row w lo hi t (.slice (some ⟨g, 0, none⟩) n c) (ivs X)) (hk : k < X.length) : w.cell? ⟨g, k, none⟩ = some (.int .i64 X[k]) := by
  obtain ⟨ad, e, _, hc⟩ := ivs_at h.rd' hk
  injection e with e
  subst e
  rwa [Addr.add_lit, Nat.zero_add] at hc
end Go.Proofs.Ythkigilegnjglaa
