/- Contract of the code's AddAttack. Condition: the slices have at most 2^40 elements. -/
import Derived.Test.YtdpaoaoipnoiiaaRowsOf
import Derived.Test.YtdpaoaoipnoiiaaCopyC
import Derived.Test.YtdpaoaoipnoiiaaAddMath
import Derived.Test.YtdpaoaoipnoiiaaRowEq
import Derived.Laws.ResultCell
namespace Go.Proofs.Ytdpaoaoipnoiiaa
open Go.ChangeShapes Go.WideShapes Go.ChangeAt Go.RowKit
set_option maxRecDepth 100000
/-- A graph and a flag are returned; the graph's memory is new. -/
def FreshGB (N : Int) (Y : List (List Int)) (ok : Bool) (w : World) (e : Ending) (w' : World) : Prop :=
  ∃ v, e = .returned (.tuple #[.agg #[.int .i64 N, v], .bool ok]) ∧ OwnSS w' w.heap.size w'.heap.size v Y ∧ Below w.heap.size w w'
theorem two_graphs (w : World) (c1 c2 : Array Value) (t : TypeId) : ∃ W1 : World, W1 = (w.alloc (Obj.cells c1 t)).alloc (Obj.cells c2 t) ∧ Bx W1 w.heap.size t c1 ∧ Bx W1 (w.heap.size + 1) t c2 ∧ Below w.heap.size w W1 ∧ W1.heap.size = w.heap.size + 2 := by
  have a1 := (Bx.made w t c1).new ((Below.refl _ _).alloc (Nat.le_refl _) (Obj.cells c2 t))
  have a2 := Bx.made (w.alloc (Obj.cells c1 t)) t c2
  exact ⟨_, rfl, a1, by simpa using a2, ((Below.refl _ _).alloc (Nat.le_refl _) _).alloc (by simp) _, by simp⟩
/-- The result's cell is written last. -/
theorem keep_result {w W6 : World} {M : Nat} {v : Value} {X : List (List Int)} (cs : Array Value) (hown : OwnSS W6 M W6.heap.size v X) (hb : Below w.heap.size w W6) (hM : w.heap.size + 2 ≤ M) (hz : w.heap.size + 2 ≤ W6.heap.size) :
    OwnSS (W6.setRow (w.heap.size + 1) cs) w.heap.size (W6.setRow (w.heap.size + 1) cs).heap.size v X ∧ Below w.heap.size w (W6.setRow (w.heap.size + 1) cs) :=
  ⟨(hown.out (setRow_out W6 _ cs (Nat.le_refl _) (Nat.lt_succ_self _)) (.inr hM)).wide (by omega) (by simp [World.setRow]), hb.trans ((setRow_out W6 _ cs (Nat.le_refl _) (Nat.lt_succ_self _)).below (by omega) (by omega))⟩
end Go.Proofs.Ytdpaoaoipnoiiaa
