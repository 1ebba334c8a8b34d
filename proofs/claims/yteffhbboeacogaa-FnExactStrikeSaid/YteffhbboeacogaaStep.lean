/- The law of append of XAppend as a step of a region that draws its order, and words for what such a region keeps: over any program. -/
import Derived.Test.YteffhbboeacogaaAppend
import Derived.Deep.RegionLaw
import Derived.Deep.RegionHeld3
namespace Go.Proofs.Yteffhbboeacogaa
open Go.ChangeShapes Go.WideShapes Go.ChangeAt Go.RowKit
theorem step_app {P : Program} {w : World} {ops : Array Oper} {o : Oper} {a : Act} {K : Act → World → Prop} {Q : Exit → Act → World → Prop} {E : Prop} (hgd : o.guard = none) (s x : Operand) (t : TypeId)
    (ho : o.op = .call { callee := .builtin .append, args := #[s, x], argTypes := #[t, t] })
    (e : TypeId) (i : TypeInfo) (z : Value) (bytes : Nat) (ht : P.underlying t = some (.slice e)) (hi : P.info? e = some i) (hz : i.zero = some z) (hsize : i.size = 1) (hby : i.bytes = bytes) (hzs : z.cells.size = 1)
    {lo hi' B m c : Nat} {v : Value} {xs news : List Value} {A : Option Addr} (hs : a.eval s = v) (hx : a.eval x = .slice A m c) (hrow : Row w lo hi' e v xs) (hm : news.length = m) (hr : Rd w B A news) (h1 : ∀ u ∈ news, u.oneCell' = true)
    (h63 : xs.length + m ≤ maxLen) (hbytes : (xs.length + m) * bytes ≤ 140737488355328) (hlo : lo ≤ w.heap.size)
    (h : ∀ v' w', Row w' lo w'.heap.size e v' (xs ++ news) → Out lo hi' w w' → K (a.put o.dst v') w') :
    if Region.wanted o (yielded ops a.tmps) = true then Oper.wp P o a w K Q else E := by
  obtain ⟨v', w', hrun, h2, h3⟩ := run_app (P := P) t o.type e i z bytes ht hi hz hsize hby hzs (c := c) hrow hm hr h1 h63 hbytes hlo
  have hw : Region.wanted o (yielded ops a.tmps) = true := by simp [Region.wanted, hgd]
  rw [if_pos hw]
  unfold Oper.wp
  simp [execOp, ho, resolve, invoke, builtin, hs, hx, hrun, Result.andThen]
  exact h v' w' h2 h3
/-- wpList_app where the operation is guarded, and its guard says yes. -/
theorem wpList_app_w {P : Program} {w : World} {ops : Array Oper} {rest : List Oper} {o : Oper} {a : Act} {Q : Exit → Act → World → Prop} (hw : Region.wanted o (yielded ops a.tmps) = true) (s x : Operand) (t : TypeId)
    (ho : o.op = .call { callee := .builtin .append, args := #[s, x], argTypes := #[t, t] })
    (e : TypeId) (i : TypeInfo) (z : Value) (bytes : Nat) (ht : P.underlying t = some (.slice e)) (hi : P.info? e = some i) (hz : i.zero = some z) (hsize : i.size = 1) (hby : i.bytes = bytes) (hzs : z.cells.size = 1)
    {lo hi' B m c : Nat} {v : Value} {xs news : List Value} {A : Option Addr} (hs : a.eval s = v) (hx : a.eval x = .slice A m c) (hrow : Row w lo hi' e v xs) (hm : news.length = m) (hr : Rd w B A news) (h1 : ∀ u ∈ news, u.oneCell' = true)
    (h63 : xs.length + m ≤ maxLen) (hbytes : (xs.length + m) * bytes ≤ 140737488355328) (hlo : lo ≤ w.heap.size)
    (K : ∀ v' w', Row w' lo w'.heap.size e v' (xs ++ news) → Out lo hi' w w' → wpList P ops Q rest (a.put o.dst v') w') : wpList P ops Q (o :: rest) a w := by
  obtain ⟨v', w', hrun, h2, h3⟩ := run_app (P := P) t o.type e i z bytes ht hi hz hsize hby hzs (c := c) hrow hm hr h1 h63 hbytes hlo
  unfold wpList
  rw [if_pos hw]
  refine .inl ?_
  unfold Oper.wp
  simp [execOp, ho, resolve, invoke, builtin, hs, hx, hrun, Result.andThen]
  exact K v' w' h2 h3
section
variable {w w1 w2 : World} {a : Addr} {v : Value}
/-- A cell is as it was, and so is all old memory. -/
theorem hc_call (hl : a.block < w.heap.size) (h : w1.cell? a = some v ∧ Below w.heap.size w w1) (hb : Below w1.heap.size w1 w2) : w2.cell? a = some v ∧ Below w.heap.size w w2 := by
  have h3 := h.2.trans (hb.mono h.2.size)
  exact ⟨(World.cell?_of_block (hb.block _ (Nat.lt_of_lt_of_le hl h.2.size))).trans h.1, h3⟩
theorem hc_start (h : w.cell? a = some v) : w.drew.cell? a = some v ∧ Below w.heap.size w w.drew := ⟨h, (Below.refl _ _).drew⟩
theorem hc_refl (h : w.cell? a = some v) : w.cell? a = some v ∧ Below w.heap.size w w := ⟨h, Below.refl _ _⟩
theorem hc_drew (h : w1.cell? a = some v ∧ Below w.heap.size w w1) : w1.drew.cell? a = some v ∧ Below w.heap.size w w1.drew := ⟨h.1, h.2.drew⟩
theorem hc_alloc (hl : a.block < w.heap.size) (h : w1.cell? a = some v ∧ Below w.heap.size w w1) (o : Obj) : (w1.alloc o).cell? a = some v ∧ Below w.heap.size w (w1.alloc o) :=
  hc_call hl h ((Below.refl _ _).alloc (Nat.le_refl _) _)
theorem hc_out {lo hi : Nat} (hl : a.block < w.heap.size) (h : w1.cell? a = some v ∧ Below w.heap.size w w1) (o : Out lo hi w1 w2) (hlo : w.heap.size ≤ lo) : w2.cell? a = some v ∧ Below w.heap.size w w2 := by
  have hb := o.below hlo h.2.size
  exact ⟨(World.cell?_of_block (hb.block _ hl)).trans h.1, h.2.trans hb⟩
theorem hc_at (h : w1.cell? a = some v) (hb : Below w.heap.size w w1) : w1.cell? a = some v ∧ Below w.heap.size w w1 := ⟨h, hb⟩
theorem hc_atd (h : w1.cell? a = some v) (hb : Below w.heap.size w w1) : w1.drew.cell? a = some v ∧ Below w.heap.size w w1.drew := ⟨h, hb.drew⟩
end
end Go.Proofs.Yteffhbboeacogaa
