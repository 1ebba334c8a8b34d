/- Contract of the code's copyOfGraph. Condition: the slices have at most 2^40 elements. -/
import Derived.Test.YtdpaoaoipnoiiaaCopyM
import Derived.Test.YtdpaoaoipnoiiaaCopyL
namespace Go.Proofs.Ytdpaoaoipnoiiaa
open Go.ChangeShapes Go.WideShapes Go.ChangeAt Go.RowKit
set_option maxRecDepth 100000
theorem rdD {w : World} {A : Option Addr} {xs : List Value} (h : Rd w w.heap.size A xs) : Rd w.drew w.drew.heap.size A xs := h
theorem rdSSd' {w : World} {A : Option Addr} {X : List (List Int)} (h : RdSS w w.heap.size A X) : RdSS w.drew w.drew.heap.size A X := h
theorem two_g (w : World) (c1 c2 : Array Value) (t : TypeId) : ∃ W1 : World, W1 = (w.alloc (Obj.cells c1 t)).alloc (Obj.cells c2 t) ∧ Bx W1 w.heap.size t c1 ∧ Bx W1 (w.heap.size + 1) t c2 ∧ Below w.heap.size w W1 ∧ W1.heap.size = w.heap.size + 2 := by
  have a1 := (Bx.made w t c1).new ((Below.refl _ _).alloc (Nat.le_refl _) (Obj.cells c2 t))
  have a2 := Bx.made (w.alloc (Obj.cells c1 t)) t c2
  exact ⟨_, rfl, a1, by simpa using a2, ((Below.refl _ _).alloc (Nat.le_refl _) _).alloc (by simp) _, by simp⟩
end Go.Proofs.Ytdpaoaoipnoiiaa
