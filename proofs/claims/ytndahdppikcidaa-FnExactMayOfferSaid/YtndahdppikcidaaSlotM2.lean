/- Contracts of the models of chapter 14: Speak, LeftOf, OverBy, BellsAt. No conditions. -/
import Derived.Test.YtndahdppikcidaaSlotM
import Derived.Test.YtndahdppikcidaaGraph
import Derived.Test.YtndahdppikcidaaGrow
namespace Go.Proofs.Ytndahdppikcidaa
open Go.ChangeShapes Go.WideShapes Go.ChangeAt Go.RowKit
set_option maxRecDepth 100000
theorem Bx.cells3 {w w' : World} {g : Nat} {t : TypeId} {a b c : Value} (h : Bx w g t #[a, b, c]) (hb : Below w.heap.size w w') : w'.cell? ⟨g, 0, none⟩ = some a ∧ w'.cell? ⟨g, 1, none⟩ = some b ∧ w'.cell? ⟨g, 2, none⟩ = some c := by
  have k := h.new hb
  refine ⟨?_, ?_, ?_⟩ <;> (rw [cell_of_row _ _ _ _ _ _ k]; rfl)
/-- A struct's box, made: the world, the block, what lies below. -/
theorem box3 (w : World) (t : TypeId) (a b c : Value) : ∃ W1 : World, w.alloc (Obj.cells #[a, b, c] t) = W1 ∧ Bx W1 w.heap.size t #[a, b, c] ∧ Below w.heap.size w W1 ∧ W1.heap.size = w.heap.size + 1 :=
  ⟨_, rfl, Bx.made _ _ _, alloc_new _ _, by simp⟩
theorem lefN_no {s : T3} (h : slB s = false) : lefN s = 0 := by unfold lefN; rw [h]; rfl
theorem ovrN_no {s : T3} (h : slB s = false) : ovrN s = 0 := by unfold ovrN; rw [h]; rfl
theorem belL_no {s : T3} (h : slB s = false) : belL s = [] := by unfold belL; rw [h]; rfl
section
variable {w : World} {a b c : Int}
theorem bel_yes {s : T3} (h : slB s = true) (hl : 120 < s.2.1) : belL s = [60, s.2.1 - 60, s.2.1, s.2.1 + 15] := by unfold belL; rw [if_pos h, if_pos hl]; rfl
theorem bel_low {s : T3} (h : slB s = true) (hl : ¬ 120 < s.2.1) : belL s = [s.2.1, s.2.1 + 15] := by unfold belL; rw [if_pos h, if_neg hl]; rfl
end
end Go.Proofs.Ytndahdppikcidaa
