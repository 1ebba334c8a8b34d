/- Appending one list of integers to a list of lists: as an operation of a stretch and as a step of a region that draws. -/
import Derived.Test.YteffhbboeacogaaIntSS
import Derived.Test.YteffhbboeacogaaDeep2
import Derived.Test.YteffhbboeacogaaStep
namespace Go.Proofs.Yteffhbboeacogaa
open Go.ChangeShapes Go.WideShapes Go.ChangeAt Go.RowKit
section
variable {w : World} {ops : Array Oper} {rest : List Oper} {o : Oper} {a : Act} {Q : Exit → Act → World → Prop}
theorem row_cell {lo hi : Nat} {u : Value} {zs : List Int} (h : Row w lo hi 3 u (ivs zs)) : u.oneCell' = true := by
  obtain ⟨A, c, rfl, _⟩ := h.rd rfl
  rfl
theorem run_appSS (ty : TypeId) {L M lo hi B c : Nat} {v u : Value} {X : List (List Int)} {x : List Int} {ad : Addr} (h : OwnSS w L M v X) (hx : Row w lo hi 3 u (ivs x)) (hr : Rd w B (some ad) [u]) (hd : M ≤ lo) (hLM : L ≤ M) (hn : X.length + 1 ≤ 1099511627777) (hL : L ≤ w.heap.size) :
    ∃ v' w', (Builtin.append_ #[108, 108] ty #[v, .slice (some ad) 1 c]).run Try.prog w = .ok v' w' ∧ OwnSS w' L w'.heap.size v' (X ++ [x]) ∧ Below L w w' := by
  obtain ⟨i0, hi0, hz0, hz1, hz2⟩ := info_parts IntSS_info
  obtain ⟨F, k1, k2, k3⟩ := Row.owns hx
  exact run_appR (R := IntsR .i64 3) (e := 24) (size := 1) (x := x) (us := [u]) (M' := hi) (IntsR.frames _ _) 108 ty i0 _ 24 Try.underlying108 hi0 hz0 hz1 hz2 rfl (by omega) h ⟨F, k1, k2, fun b hb => ⟨by have := (k3 b hb).1; omega, (k3 b hb).2⟩⟩ rfl hr (by simp [row_cell hx]) hLM (by unfold maxLen; omega) (by omega) hL
theorem wpList_appSS (hgd : o.guard = none) (s y : Operand) (ho : o.op = .call { callee := .builtin .append, args := #[s, y], argTypes := #[108, 108] })
    {L M lo hi B c : Nat} {v u : Value} {X : List (List Int)} {x : List Int} {ad : Addr} (hs : a.eval s = v) (hy : a.eval y = .slice (some ad) 1 c) (h : OwnSS w L M v X) (hx : Row w lo hi 3 u (ivs x)) (hr : Rd w B (some ad) [u]) (hd : M ≤ lo) (hLM : L ≤ M) (hn : X.length + 1 ≤ 1099511627777) (hL : L ≤ w.heap.size)
    (K : ∀ v' w', OwnSS w' L w'.heap.size v' (X ++ [x]) → Below L w w' → wpList Try.prog ops Q rest (a.put o.dst v') w') : wpList Try.prog ops Q (o :: rest) a w := by
  obtain ⟨v', w', hrun, h2, h3⟩ := run_appSS o.type (c := c) h hx hr hd hLM hn hL
  refine wpList_plain hgd fun K' hK' => ?_
  unfold Oper.wp
  simp [execOp, ho, resolve, invoke, builtin, hs, hy, hrun, Result.andThen]
  exact hK' _ _ (K v' w' h2 h3)
theorem step_appSS {K : Act → World → Prop} {E : Prop} (hgd : o.guard = none) (s y : Operand) (ho : o.op = .call { callee := .builtin .append, args := #[s, y], argTypes := #[108, 108] })
    {L M lo hi B c : Nat} {v u : Value} {X : List (List Int)} {x : List Int} {ad : Addr} (hs : a.eval s = v) (hy : a.eval y = .slice (some ad) 1 c) (h : OwnSS w L M v X) (hx : Row w lo hi 3 u (ivs x)) (hr : Rd w B (some ad) [u]) (hd : M ≤ lo) (hLM : L ≤ M) (hn : X.length + 1 ≤ 1099511627777) (hL : L ≤ w.heap.size)
    (hK : ∀ v' w', OwnSS w' L w'.heap.size v' (X ++ [x]) → Below L w w' → K (a.put o.dst v') w') : if Region.wanted o (yielded ops a.tmps) = true then Oper.wp Try.prog o a w K Q else E := by
  obtain ⟨v', w', hrun, h2, h3⟩ := run_appSS o.type (c := c) h hx hr hd hLM hn hL
  have hw : Region.wanted o (yielded ops a.tmps) = true := by simp [Region.wanted, hgd]
  rw [if_pos hw]
  unfold Oper.wp
  simp [execOp, ho, resolve, invoke, builtin, hs, hy, hrun, Result.andThen]
  exact hK v' w' h2 h3
end
section
variable {w0 w1 w2 : World} {L : Nat} {a b c : Addr} {u v x : Value}
theorem cell_below (h : w1.cell? a = some v) (hb : Below L w1 w2) (hl : a.block < L) : w2.cell? a = some v := (World.cell?_of_block (hb.block _ hl)).trans h
/-- One cell, or three, below L, and all memory below L as it was. -/
def H1 (L : Nat) (a : Addr) (v : Value) (w0 w : World) : Prop := w.cell? a = some v ∧ Below L w0 w
theorem h1_to (h : w1.cell? a = some v ∧ Below L w0 w1) (hl : a.block < L) (hb : Below L w1 w2) : w2.cell? a = some v ∧ Below L w0 w2 := ⟨cell_below h.1 hb hl, h.2.trans hb⟩
theorem h1_drew (h : w1.cell? a = some v ∧ Below L w0 w1) : w1.drew.cell? a = some v ∧ Below L w0 w1.drew := ⟨h.1, h.2.drew⟩
theorem h1_alloc (h : w1.cell? a = some v ∧ Below L w0 w1) (hl : a.block < L) (hL : L ≤ w0.heap.size) (o : Obj) : (w1.alloc o).cell? a = some v ∧ Below L w0 (w1.alloc o) :=
  h1_to h hl ((Below.refl _ _).alloc (Nat.le_trans hL h.2.size) o)
theorem h2_to (h : w1.cell? a = some u ∧ w1.cell? b = some v ∧ Below L w0 w1) (ha : a.block < L) (hb : b.block < L) (h2 : Below L w1 w2) : w2.cell? a = some u ∧ w2.cell? b = some v ∧ Below L w0 w2 :=
  ⟨cell_below h.1 h2 ha, cell_below h.2.1 h2 hb, h.2.2.trans h2⟩
theorem h2_drew (h : w1.cell? a = some u ∧ w1.cell? b = some v ∧ Below L w0 w1) : w1.drew.cell? a = some u ∧ w1.drew.cell? b = some v ∧ Below L w0 w1.drew := ⟨h.1, h.2.1, h.2.2.drew⟩
theorem h2_alloc (h : w1.cell? a = some u ∧ w1.cell? b = some v ∧ Below L w0 w1) (ha : a.block < L) (hb : b.block < L) (hL : L ≤ w0.heap.size) (o : Obj) : (w1.alloc o).cell? a = some u ∧ (w1.alloc o).cell? b = some v ∧ Below L w0 (w1.alloc o) :=
  h2_to h ha hb ((Below.refl _ _).alloc (Nat.le_trans hL h.2.2.size) o)
theorem h2_set (h : w1.cell? a = some u ∧ w1.cell? b = some v ∧ Below L w0 w1) (ha : a.block < L) (hb : b.block < L) {p : Addr} (hp : L ≤ p.block) (x : Value) : (w1.setCell p x).cell? a = some u ∧ (w1.setCell p x).cell? b = some v ∧ Below L w0 (w1.setCell p x) :=
  h2_to h ha hb ((Below.refl _ _).setCell hp x)
theorem h3_to (h : w1.cell? a = some u ∧ w1.cell? b = some v ∧ w1.cell? c = some x ∧ Below L w0 w1) (ha : a.block < L) (hb : b.block < L) (hc : c.block < L) (h2 : Below L w1 w2) : w2.cell? a = some u ∧ w2.cell? b = some v ∧ w2.cell? c = some x ∧ Below L w0 w2 :=
  ⟨cell_below h.1 h2 ha, cell_below h.2.1 h2 hb, cell_below h.2.2.1 h2 hc, h.2.2.2.trans h2⟩
theorem h3_drew (h : w1.cell? a = some u ∧ w1.cell? b = some v ∧ w1.cell? c = some x ∧ Below L w0 w1) : w1.drew.cell? a = some u ∧ w1.drew.cell? b = some v ∧ w1.drew.cell? c = some x ∧ Below L w0 w1.drew := ⟨h.1, h.2.1, h.2.2.1, h.2.2.2.drew⟩
theorem h3_alloc (h : w1.cell? a = some u ∧ w1.cell? b = some v ∧ w1.cell? c = some x ∧ Below L w0 w1) (ha : a.block < L) (hb : b.block < L) (hc : c.block < L) (hL : L ≤ w0.heap.size) (o : Obj) : (w1.alloc o).cell? a = some u ∧ (w1.alloc o).cell? b = some v ∧ (w1.alloc o).cell? c = some x ∧ Below L w0 (w1.alloc o) :=
  h3_to h ha hb hc ((Below.refl _ _).alloc (Nat.le_trans hL h.2.2.2.size) o)
end
end Go.Proofs.Yteffhbboeacogaa
