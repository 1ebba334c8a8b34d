/- Contract of the model's l4Copy. Condition: the slices have at most 2^40 elements. -/
import Derived.Test.YtdpaoaoipnoiiaaAppSS
import Derived.Test.YtdpaoaoipnoiiaaGraph
import Derived.Test.YtdpaoaoipnoiiaaGraphFns
import Derived.Test.YtdpaoaoipnoiiaaBits
namespace Go.Proofs.Ytdpaoaoipnoiiaa
open Go.ChangeShapes Go.WideShapes Go.ChangeAt Go.RowKit
set_option maxRecDepth 100000
theorem rowD {w : World} {lo hi : Nat} {t : TypeId} {v : Value} {xs : List Value} (h : Row w lo hi t v xs) : Row w.drew lo hi t v xs := h
/-- Three blocks for graphs: the argument, the result, the one that grows. -/
theorem three_graphs (w : World) (c1 c2 c3 : Array Value) (t : TypeId) : ∃ W1 : World, W1 = ((w.alloc (Obj.cells c1 t)).alloc (Obj.cells c2 t)).alloc (Obj.cells c3 t) ∧ Bx W1 w.heap.size t c1 ∧ Bx W1 (w.heap.size + 1) t c2 ∧ Bx W1 (w.heap.size + 2) t c3 ∧ Below w.heap.size w W1 ∧ W1.heap.size = w.heap.size + 3 := by
  have a1 := (Bx.made w t c1).new ((Below.refl _ _).alloc (Nat.le_refl _) (Obj.cells c2 t))
  have a2 := Bx.made (w.alloc (Obj.cells c1 t)) t c2
  have a3 := Bx.made ((w.alloc (Obj.cells c1 t)).alloc (Obj.cells c2 t)) t c3
  have k := (Below.refl ((w.alloc (Obj.cells c1 t)).alloc (Obj.cells c2 t)).heap.size ((w.alloc (Obj.cells c1 t)).alloc (Obj.cells c2 t))).alloc (Nat.le_refl _) (Obj.cells c3 t)
  refine ⟨_, rfl, a1.new k, ?_, ?_, (((Below.refl _ _).alloc (Nat.le_refl _) _).alloc (by simp) _).alloc (by simp; omega) _, by simp⟩
  · simpa using a2.new k
  · simpa using a3
theorem OwnSS.one {w : World} {lo hi : Nat} {v : Value} {X : List (List Int)} (h : OwnSS w lo hi v X) : v.oneCell' = true := by
  obtain ⟨A, c, rfl, _⟩ := h.rd rfl
  rfl
end Go.Proofs.Ytdpaoaoipnoiiaa
