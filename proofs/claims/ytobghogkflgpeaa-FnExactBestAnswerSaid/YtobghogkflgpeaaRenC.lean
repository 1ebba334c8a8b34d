/- Contracts of the code's namesWithout and renamed. Conditions: at most 10 claims, rows below 2^16, names that are claims or none. -/
import Derived.Test.YtobghogkflgpeaaRenMath
import Derived.Test.YtobghogkflgpeaaFreeC
import Derived.Test.YtobghogkflgpeaaMg1
import Derived.Test.YtobghogkflgpeaaAddC
namespace Go.Proofs.Ytobghogkflgpeaa
open Go.ChangeShapes Go.WideShapes Go.ChangeAt Go.RowKit
set_option maxRecDepth 100000
/-- Ten names as cells. -/
def nmC (t : Nat → Int) : Array Value := #[.int .i64 (t 0), .int .i64 (t 1), .int .i64 (t 2), .int .i64 (t 3), .int .i64 (t 4), .int .i64 (t 5), .int .i64 (t 6), .int .i64 (t 7), .int .i64 (t 8), .int .i64 (t 9)]
theorem nmC_at (t : Nat → Int) {k : Nat} (hk : k < 10) : (nmC t)[k]? = some (.int .i64 (t k)) := by
  rcases lt10 hk with rfl | rfl | rfl | rfl | rfl | rfl | rfl | rfl | rfl | rfl <;> rfl
theorem nmC_lit : #[Value.int .i64 0, .int .i64 0, .int .i64 0, .int .i64 0, .int .i64 0, .int .i64 0, .int .i64 0, .int .i64 0, .int .i64 0, .int .i64 0] = nmC fun _ => 0 := rfl
theorem nmC_one (t : Nat → Int) : ∀ v ∈ (nmC t).toList, v.oneCell' = true := by simp [nmC, Value.oneCell']
theorem nmC_set (t : Nat → Int) {k : Nat} (hk : k < 10) : (nmC fun j => if j < k then t j else 0).setIfInBounds k (.int .i64 (t k)) = nmC fun j => if j < k + 1 then t j else 0 := by
  rcases lt10 hk with rfl | rfl | rfl | rfl | rfl | rfl | rfl | rfl | rfl | rfl <;> simp [nmC]
theorem nmC_all (t : Nat → Int) : nmC (fun j => if j < 10 then t j else 0) = nmC t := by simp [nmC]
section
variable {w : World} {ops : Array Oper} {rest : List Oper} {o : Oper} {a : Act} {Q : Exit → Act → World → Prop} {cs : Array Value}
end
theorem two_blocks (w : World) (c1 c2 : Array Value) (t1 t2 : TypeId) : ∃ W1 : World, (w.alloc (Obj.cells c1 t1)).alloc (Obj.cells c2 t2) = W1 ∧ Bx W1 w.heap.size t1 c1 ∧ Bx W1 (w.heap.size + 1) t2 c2 ∧ Below w.heap.size w W1 ∧ W1.heap.size = w.heap.size + 2 := by
  have a1 := (Bx.made w t1 c1).new (alloc_new _ (Obj.cells c2 t2))
  have a2 := Bx.made (w.alloc (Obj.cells c1 t1)) t2 c2
  exact ⟨_, rfl, a1, by simpa using a2, ((Below.refl _ _).alloc (Nat.le_refl _) _).alloc (by simp) _, by simp⟩
theorem setCell_out (w : World) (g k : Nat) (u : Value) : Out g (g + 1) w (w.setCell ⟨g, k, none⟩ u) :=
  ⟨rfl, rfl, rfl, by simp, fun j _ hj => Below.heap_setCell w ⟨g, k, none⟩ u j (by simp; omega)⟩
theorem three_blocks (w : World) (c1 c2 c3 : Array Value) (t1 t2 t3 : TypeId) : ∃ W1 : World, ((w.alloc (Obj.cells c1 t1)).alloc (Obj.cells c2 t2)).alloc (Obj.cells c3 t3) = W1 ∧ Bx W1 w.heap.size t1 c1 ∧ Bx W1 (w.heap.size + 1) t2 c2 ∧ Bx W1 (w.heap.size + 2) t3 c3 ∧ Below w.heap.size w W1 ∧ W1.heap.size = w.heap.size + 3 := by
  obtain ⟨W2, hW, b1, b2, hb, hs⟩ := two_blocks w c1 c2 t1 t2
  have a3 := Bx.made W2 t3 c3
  rw [hW]
  exact ⟨_, rfl, b1.new (alloc_new _ _), b2.new (alloc_new _ _), by rw [hs] at a3; exact a3, hb.alloc (by omega) _, by simp [hs]⟩
theorem rowL_take (f : Nat → Nat) (k : Nat) {j : Nat} {z : Int} (hj : j < (lsT (f k) 10).length) (hz : (lsT (f k) 10)[j] = z) : (rowL f k).take (j + 1) = (rowL f k).take j ++ [[(k : Int), z]] := by
  have h : j < (rowL f k).length := by unfold rowL; rw [List.length_map]; exact hj
  rw [List.take_succ_eq_append_getElem h]
  simp only [rowL, List.getElem_map, hz]
end Go.Proofs.Ytobghogkflgpeaa
