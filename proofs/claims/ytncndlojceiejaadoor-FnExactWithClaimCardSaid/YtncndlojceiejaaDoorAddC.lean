/- Contract of the code's AddAttack. Condition: the slices have at most 2^40 elements. -/
import Derived.Test.YtncndlojceiejaaDoorRowsOf
import Derived.Test.YtncndlojceiejaaDoorCopyC
import Derived.Test.YtncndlojceiejaaDoorAddMath
import Derived.Test.YtncndlojceiejaaDoorRowEq
import Derived.Laws.ResultCell
namespace Go.Proofs.YtncndlojceiejaaDoor
open Go.ChangeShapes Go.WideShapes Go.ChangeAt Go.RowKit
set_option maxRecDepth 100000
/-- A graph and a flag are returned; the graph's memory is new. -/
def FreshGB (N : Int) (Y : List (List Int)) (ok : Bool) (w : World) (e : Ending) (w' : World) : Prop :=
  ∃ v, e = .returned (.tuple #[.agg #[.int .i64 N, v], .bool ok]) ∧ OwnSS w' w.heap.size w'.heap.size v Y ∧ Below w.heap.size w w'
theorem resGB {w : World} {fn : Func} {p u : Tmp} {tmps : Array Value} {g : Nat} {cs : Array Value} {x : Value} (h : fn.results = #[.cell p 27, .tmp u]) (hb : Bx w g 27 cs) (hs : cs.size = 2) (hp : tmps.getD p undef = .pointer (some ⟨g, 0, none⟩)) (hu : tmps.getD u undef = x) : (results fn tmps).run Tryd.prog w = .ok (.tuple #[.agg cs, x]) w := by
  rw [results_cell_tmp h, hp, hu]
  simp [asAddr, run_loadVar_row w g _ _ cs (0, 0) _ hb Tryd.underlying27 rfl (by rw [GR_info, hs])]
theorem two_graphs (w : World) (c1 c2 : Array Value) (t : TypeId) : ∃ W1 : World, W1 = (w.alloc (Obj.cells c1 t)).alloc (Obj.cells c2 t) ∧ Bx W1 w.heap.size t c1 ∧ Bx W1 (w.heap.size + 1) t c2 ∧ Below w.heap.size w W1 ∧ W1.heap.size = w.heap.size + 2 := by
  have a1 := (Bx.made w t c1).new ((Below.refl _ _).alloc (Nat.le_refl _) (Obj.cells c2 t))
  have a2 := Bx.made (w.alloc (Obj.cells c1 t)) t c2
  exact ⟨_, rfl, a1, by simpa using a2, ((Below.refl _ _).alloc (Nat.le_refl _) _).alloc (by simp) _, by simp⟩
/-- A value is put into a new block for rows. -/
theorem new_rows (w : World) (n : Int) (f : Nat → Nat) : ∃ W4 W5 : World, w.alloc (Obj.cells (arC 0 fun _ => 0) 59) = W4 ∧ W4.setRow w.heap.size (arC n f) = W5 ∧ Bx W4 w.heap.size 59 (arC 0 fun _ => 0) ∧ Bx W5 w.heap.size 59 (arC n f) ∧ Below w.heap.size w W5 ∧ W5.heap.size = w.heap.size + 1 := by
  have bx4 := Bx.made w 59 (arC 0 fun _ => 0)
  have o5 := setRow_out (w.alloc (Obj.cells (arC 0 fun _ => 0) 59)) w.heap.size (arC n f) (Nat.le_refl _) (Nat.lt_succ_self _)
  exact ⟨_, _, rfl, rfl, bx4, bx4.setRow (arC n f), ((Below.refl _ _).alloc (Nat.le_refl _) _).trans (o5.below (Nat.le_refl _) (by simp)), by simp [World.setRow]⟩
theorem AR_guard : Tryd.prog.eqGuardType Tryd.prog.depth 59 = false := by kernel_rfl
theorem eqAR {w : World} {ops : Array Oper} {rest : List Oper} {o : Oper} {a : Act} {Q : Exit → Act → World → Prop} (hgd : o.guard = none) (x y : Operand) (ho : o.op = .binOp .eql 59 x y 59) {n : Int} {f g : Nat → Nat} (hx : a.eval x = .agg (arC n f)) (hy : a.eval y = .agg (arC n g)) (K : wpList Tryd.prog ops Q rest (a.put o.dst (.bool (sameR f g [0, 1, 2, 3, 4, 5, 6, 7, 8, 9]))) w) : wpList Tryd.prog ops Q (o :: rest) a w := by
  refine wpList_plain hgd fun K' hK' => ?_
  have h1 := arC_eql n f g w
  have h2 := run_eqGuard_agg (P := Tryd.prog) w .eql 59 x y (arC n f) (arC n g) AR_guard
  unfold Oper.wp execOp
  simp only [ho, hx, hy, Sem.run_bind, Sem.run_pure, h1, h2, Result.andThen_ok]
  exact hK' _ _ K
/-- The result's cell is written last. -/
theorem keep_result {w W6 : World} {M : Nat} {v : Value} {X : List (List Int)} (cs : Array Value) (hown : OwnSS W6 M W6.heap.size v X) (hb : Below w.heap.size w W6) (hM : w.heap.size + 2 ≤ M) (hz : w.heap.size + 2 ≤ W6.heap.size) :
    OwnSS (W6.setRow (w.heap.size + 1) cs) w.heap.size (W6.setRow (w.heap.size + 1) cs).heap.size v X ∧ Below w.heap.size w (W6.setRow (w.heap.size + 1) cs) :=
  ⟨(hown.out (setRow_out W6 _ cs (Nat.le_refl _) (Nat.lt_succ_self _)) (.inr hM)).wide (by omega) (by simp [World.setRow]), hb.trans ((setRow_out W6 _ cs (Nat.le_refl _) (Nat.lt_succ_self _)).below (by omega) (by omega))⟩
end Go.Proofs.YtncndlojceiejaaDoor
