/- Contracts of the smallest functions of chapter 1 (InRange, Min, Max, CeilDiv, Mod) and of their models: each returns the integer or truth value that a plain Lean function names, for every input. No conditions. -/
import Derived.Test.YtncndlojceiejaaRows
import Derived.WalkKit
import Derived.ProofKit
import Derived.OpenShut
import Derived.LoopN
import Derived.Handy
import Derived.Lib.Hide
import Derived.IntWalk
import Derived.Test.YtncndlojceiejaaMg0
import Derived.Test.YtncndlojceiejaaMg1
import Derived.Deep.RegionLaw
import Derived.Deep.RegionHeld3
namespace Go.Proofs.Ytncndlojceiejaa
open Go.ChangeShapes Go.WideShapes Go.ChangeAt Go.RowKit
def mn (a b : Int) : Int := if b < a then b else a
def mx (a b : Int) : Int := if b > a then b else a
theorem mn_t {a b : Int} (h : b < a) : mn a b = b := if_pos h
theorem mn_f {a b : Int} (h : ¬ b < a) : mn a b = a := if_neg h
theorem mx_t {a b : Int} (h : b < a) : mx a b = a := if_neg (by omega)
theorem mx_f {a b : Int} (h : ¬ b < a) : mx a b = b := by unfold mx; split <;> omega
theorem smin_any (a b : Int) (w : World) :
    Calls Try.prog 69 #[.int .i64 a, .int .i64 b] w fun e w' => e = .returned (.int .i64 (mn a b)) ∧ w = w' := by
  by_cases h : b < a
  all_goals
    first | (have H := mn_t h) | (have H := mn_f h)
    have HH := Lib.hid H
    clear H
    go_enter Try.func69, Try.ntmps69
    go_wp2
    go_ret
    exact ⟨ret_i (HH.out).symm, rfl⟩
def inr (n lo hi : Int) : Bool := decide (lo ≤ n) && decide (n ≤ hi)
theorem inr_t {n lo hi : Int} (h1 : lo ≤ n) (h2 : n ≤ hi) : inr n lo hi = true := by simp [inr, h1, h2]
theorem inr_f {n lo hi : Int} (h : n < lo ∨ hi < n) : inr n lo hi = false := by
  rcases h with h | h <;> simp [inr] <;> omega
theorem inRange_any (n lo hi : Int) (w : World) :
    Calls Try.prog 44 #[.int .i64 n, .int .i64 lo, .int .i64 hi] w fun e w' => e = .returned (.bool (inr n lo hi)) ∧ w = w' := by
  by_cases h1 : lo ≤ n
  · have d1 : decide (lo ≤ n) = true := by simpa using h1
    go_enter Try.func44, Try.ntmps44
    go_wp2
    all_goals go_ret
    all_goals exact ⟨ret_b (by simp [inr, h1]), rfl⟩
  · have d1 : decide (lo ≤ n) = false := by simpa using h1
    go_enter Try.func44, Try.ntmps44
    go_wp2
    all_goals go_ret
    all_goals exact ⟨ret_b (by simp [inr]; omega), rfl⟩
theorem l1In_any (n lo hi : Int) (w : World) :
    Calls Try.prog 55 #[.int .i64 n, .int .i64 lo, .int .i64 hi] w fun e w' => e = .returned (.bool (inr n lo hi)) ∧ w = w' := by
  by_cases h1 : lo ≤ n
  · have d1 : decide (lo ≤ n) = true := by simpa using h1
    go_enter Try.func55, Try.ntmps55
    go_wp2
    all_goals go_ret
    all_goals exact ⟨ret_b (by simp [inr, h1]), rfl⟩
  · have d1 : decide (lo ≤ n) = false := by simpa using h1
    go_enter Try.func55, Try.ntmps55
    go_wp2
    all_goals go_ret
    all_goals exact ⟨ret_b (by simp [inr]; omega), rfl⟩
def cdiv (a b : Int) : Int := if inr a 0 1000000000000 && inr b 1 1000000000000 then (a + b - 1) / b else 0
def md (p q : Int) : Int := if inr q 1 1000000000000 then p % q else 0
theorem tmod_fix {p q : Int} (hq : 0 < q) : (p.tmod q < 0 → p.tmod q + q = p % q) ∧ (0 ≤ p.tmod q → p.tmod q = p % q) := by
  have h1 := Int.emod_nonneg p (show q ≠ 0 by omega)
  have h2 := Int.emod_lt_of_pos p hq
  rw [Int.tmod_eq_emod]
  split <;> constructor <;> intro h <;> omega
theorem smod_eq {p q : Int} (e2 : inr q 1 1000000000000 = true) (hq : 0 < q) : (p.tmod q + q) % q = md p q := by
  obtain ⟨f1, f2⟩ := tmod_fix (p := p) hq
  rw [Int.add_emod_right]
  simp only [md, e2, if_true]
  by_cases h : p.tmod q < 0
  · rw [← f1 h, ← Int.add_emod_right (p.tmod q) q]
    have := f1 h
    rw [this, Int.emod_emod]
  · rw [f2 (by omega), Int.emod_emod]
end Go.Proofs.Ytncndlojceiejaa

/- The law of append of XAppend as a step of a region that draws its order, and words for what such a region keeps: over any program. -/
namespace Go.Proofs.Ytncndlojceiejaa
open Go.ChangeShapes Go.WideShapes Go.ChangeAt Go.RowKit
theorem step_app {P : Program} {w : World} {ops : Array Oper} {o : Oper} {a : Act} {K : Act → World → Prop} {Q : Exit → Act → World → Prop} {E : Prop} (hgd : o.guard = none) (s x : Operand) (t : TypeId)
    (ho : o.op = .call { callee := .builtin .append, args := #[s, x], argTypes := #[t, t] })
    (e : TypeId) (i : TypeInfo) (z : Value) (bytes : Nat) (ht : P.underlying t = some (.slice e)) (hi : P.info? e = some i) (hz : i.zero = some z) (hsize : i.size = 1) (hby : i.bytes = bytes) (hzs : z.cells.size = 1)
    {lo hi' B m c : Nat} {v : Value} {xs news : List Value} {A : Option Addr} (hs : a.eval s = v) (hx : a.eval x = .slice A m c) (hrow : Row w lo hi' e v xs) (hm : news.length = m) (hr : Rd w B A news) (h1 : ∀ u ∈ news, u.oneCell' = true)
    (h63 : xs.length + m ≤ maxLen) (hbytes : (xs.length + m) * bytes ≤ 140737488355328) (hlo : lo ≤ w.heap.size)
    (h : ∀ v' w', Row w' lo w'.heap.size e v' (xs ++ news) → Out lo hi' w w' → K (a.put o.dst v') w') :
    if Region.wanted o (yielded ops a.tmps) = true then Oper.wp P o a w K Q else E := by
  obtain ⟨v', w', hrun, h2, h3⟩ := run_app (P := P) t o.type e i z bytes ht hi hz hsize hby hzs (c := c) hrow hm hr h1 h63 hbytes hlo
  have hw : Region.wanted o (yielded ops a.tmps) = true := by simp [Region.wanted, hgd]
  rw [if_pos hw]
  unfold Oper.wp
  simp [execOp, ho, resolve, invoke, builtin, hs, hx, hrun, Result.andThen]
  exact h v' w' h2 h3
/-- wpList_app where the operation is guarded, and its guard says yes. -/
theorem wpList_app_w {P : Program} {w : World} {ops : Array Oper} {rest : List Oper} {o : Oper} {a : Act} {Q : Exit → Act → World → Prop} (hw : Region.wanted o (yielded ops a.tmps) = true) (s x : Operand) (t : TypeId)
    (ho : o.op = .call { callee := .builtin .append, args := #[s, x], argTypes := #[t, t] })
    (e : TypeId) (i : TypeInfo) (z : Value) (bytes : Nat) (ht : P.underlying t = some (.slice e)) (hi : P.info? e = some i) (hz : i.zero = some z) (hsize : i.size = 1) (hby : i.bytes = bytes) (hzs : z.cells.size = 1)
    {lo hi' B m c : Nat} {v : Value} {xs news : List Value} {A : Option Addr} (hs : a.eval s = v) (hx : a.eval x = .slice A m c) (hrow : Row w lo hi' e v xs) (hm : news.length = m) (hr : Rd w B A news) (h1 : ∀ u ∈ news, u.oneCell' = true)
    (h63 : xs.length + m ≤ maxLen) (hbytes : (xs.length + m) * bytes ≤ 140737488355328) (hlo : lo ≤ w.heap.size)
    (K : ∀ v' w', Row w' lo w'.heap.size e v' (xs ++ news) → Out lo hi' w w' → wpList P ops Q rest (a.put o.dst v') w') : wpList P ops Q (o :: rest) a w := by
  obtain ⟨v', w', hrun, h2, h3⟩ := run_app (P := P) t o.type e i z bytes ht hi hz hsize hby hzs (c := c) hrow hm hr h1 h63 hbytes hlo
  unfold wpList
  rw [if_pos hw]
  refine .inl ?_
  unfold Oper.wp
  simp [execOp, ho, resolve, invoke, builtin, hs, hx, hrun, Result.andThen]
  exact K v' w' h2 h3
section
variable {w w1 w2 : World} {a : Addr} {v : Value}
/-- A cell is as it was, and so is all old memory. -/
theorem hc_call (hl : a.block < w.heap.size) (h : w1.cell? a = some v ∧ Below w.heap.size w w1) (hb : Below w1.heap.size w1 w2) : w2.cell? a = some v ∧ Below w.heap.size w w2 := by
  have h3 := h.2.trans (hb.mono h.2.size)
  exact ⟨(World.cell?_of_block (hb.block _ (Nat.lt_of_lt_of_le hl h.2.size))).trans h.1, h3⟩
theorem hc_start (h : w.cell? a = some v) : w.drew.cell? a = some v ∧ Below w.heap.size w w.drew := ⟨h, (Below.refl _ _).drew⟩
theorem hc_refl (h : w.cell? a = some v) : w.cell? a = some v ∧ Below w.heap.size w w := ⟨h, Below.refl _ _⟩
theorem hc_drew (h : w1.cell? a = some v ∧ Below w.heap.size w w1) : w1.drew.cell? a = some v ∧ Below w.heap.size w w1.drew := ⟨h.1, h.2.drew⟩
theorem hc_alloc (hl : a.block < w.heap.size) (h : w1.cell? a = some v ∧ Below w.heap.size w w1) (o : Obj) : (w1.alloc o).cell? a = some v ∧ Below w.heap.size w (w1.alloc o) :=
  hc_call hl h ((Below.refl _ _).alloc (Nat.le_refl _) _)
theorem hc_out {lo hi : Nat} (hl : a.block < w.heap.size) (h : w1.cell? a = some v ∧ Below w.heap.size w w1) (o : Out lo hi w1 w2) (hlo : w.heap.size ≤ lo) : w2.cell? a = some v ∧ Below w.heap.size w w2 := by
  have hb := o.below hlo h.2.size
  exact ⟨(World.cell?_of_block (hb.block _ hl)).trans h.1, h.2.trans hb⟩
theorem hc_at (h : w1.cell? a = some v) (hb : Below w.heap.size w w1) : w1.cell? a = some v ∧ Below w.heap.size w w1 := ⟨h, hb⟩
theorem hc_atd (h : w1.cell? a = some v) (hb : Below w.heap.size w w1) : w1.drew.cell? a = some v ∧ Below w.heap.size w w1.drew := ⟨h, hb.drew⟩
end
end Go.Proofs.Ytncndlojceiejaa

/- Words for a block of one cell, over any program. -/
namespace Go.Proofs.Ytncndlojceiejaa
open Go.ChangeShapes Go.WideShapes Go.ChangeAt Go.RowKit
/-- Block g is one cell of type t that holds v. -/
def One (w : World) (g : Nat) (t : TypeId) (v : Value) : Prop := w.heap[g]? = some (.cells #[v] t (0, 0))
section
variable {w w' : World} {g : Nat} {t : TypeId} {v : Value}
theorem One.lt (h : One w g t v) : g < w.heap.size := (Array.getElem?_eq_some_iff.1 h).1
theorem One.cell (h : One w g t v) : w.cell? ⟨g, 0, none⟩ = some v := by rw [cell_of_row w g 0 #[v] t (0, 0) h]; rfl
theorem One.free (h : One w g t v) : w.frozen? ⟨g, 0, none⟩ = false := frozen_of_row w g 0 #[v] t h
theorem One.new (w : World) (t : TypeId) (v : Value) : One (w.alloc (.cells #[v] t)) w.heap.size t v := heap_alloc_new w _
theorem One.set (h : One w g t v) (u : Value) : One (w.setCell ⟨g, 0, none⟩ u) g t u := heap_setCell_same w g 0 #[v] t u h
theorem One.keep (h : One w g t v) (hk : w'.heap[g]? = w.heap[g]?) : One w' g t v := hk.trans h
theorem One.below {B : Nat} (h : One w g t v) (hb : Below B w w') (hg : g < B) : One w' g t v := h.keep (hb.block g hg)
theorem One.newer (h : One w g t v) (hb : Below w.heap.size w w') : One w' g t v := h.keep (hb.block g h.lt)
theorem One.out {lo hi : Nat} (h : One w g t v) (o : Out lo hi w w') (hd : g < lo ∨ hi ≤ g) : One w' g t v := h.keep (o.block g h.lt hd)
theorem One.far (h : One w g t v) {p : Addr} (hp : g ≠ p.block) (u : Value) : One (w.setCell p u) g t v := h.keep (Below.heap_setCell w p u g hp)
theorem Out.setCell {g lo hi : Nat} (w : World) (h1 : lo ≤ g) (h2 : g < hi) (k : Nat) (u : Value) : Out lo hi w (w.setCell ⟨g, k, none⟩ u) :=
  ⟨rfl, rfl, rfl, by simp, fun b _ hb => Below.heap_setCell w ⟨g, k, none⟩ u b (by simp; omega)⟩
end
end Go.Proofs.Ytncndlojceiejaa
