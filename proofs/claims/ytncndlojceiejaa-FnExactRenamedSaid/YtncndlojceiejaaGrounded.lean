/- Contracts of the code's grounded, Grounded. Conditions: at most 10 claims, rows below 2^16. -/
import Derived.Test.YtncndlojceiejaaRounds
import Derived.RangeFuncFrom
namespace Go.Proofs.Ytncndlojceiejaa
open Go.ChangeShapes Go.WideShapes Go.ChangeAt Go.RowKit Go.Shelf
attribute [local go_sem] Oper.semAt_some
set_option maxRecDepth 100000
/-- A block lies as it lay. -/
def KeepB (Bn : Nat) (W W' : World) : Prop := W'.heap[Bn]? = W.heap[Bn]?
theorem keepB_t {Bn : Nat} : ∀ {A B C : World}, KeepB Bn A B → KeepB Bn B C → KeepB Bn A C := fun h k => Eq.trans k h
theorem keepB_b {Bn : Nat} {w : World} (h : Bn < w.heap.size) : ∀ (W : World) (l : Nat) (o o' : Obj), w.heap.size ≤ l → W.heap[l]? = some o → o.isCells = false → o.isWalk = false → KeepB Bn W (W.putObj l o') := fun W l o o' hl ho _ _ => by
  have hlt : l < W.heap.size := (Array.getElem?_eq_some_iff.1 ho).1
  exact (grownBy_putObj' W l o').block Bn (by omega) (by simp; omega)
/-- The last round that has come. -/
def endK (pre : List Nat) : Nat := match pre.getLast? with | none => 0 | some x => x + 1
theorem endK_snoc (pre : List Nat) (x : Nat) : endK (pre ++ [x]) = x + 1 := by simp [endK]
theorem endK_range (K : Nat) : endK (List.range K) = K := by
  cases K with
  | zero => rfl
  | succ K => rw [List.range_succ, endK_snoc]
theorem one_made (w : World) (v : Value) (t : TypeId) : (w.alloc (Obj.cells #[v] t)).cell? ⟨w.heap.size, 0, none⟩ = some v ∧ (w.alloc (Obj.cells #[v] t)).frozen? ⟨w.heap.size, 0, none⟩ = false := by
  have h := Bx.made w t #[v]
  exact ⟨h.at_ rfl, h.free 0⟩
end Go.Proofs.Ytncndlojceiejaa
