/- Contracts of the laws' own functions markRoomS, heldRoomS. No conditions but the sizes. -/
import Derived.Test.YthkigilegnjglaaRoomB
import Derived.Test.YthkigilegnjglaaMg7
namespace Go.Proofs.Ythkigilegnjglaa
open Go.ChangeShapes Go.WideShapes Go.ChangeAt Go.RowKit
set_option maxRecDepth 100000
def mk2 (q : Int) (n : Nat) : List T2 := (List.range n).map fun (i : Nat) => (q + 2 * (i : Int), q + 2 * (i : Int) + 1)
theorem mk2_len (q : Int) (n : Nat) : (mk2 q n).length = n := by simp [mk2]
theorem mk2_get (q : Int) (n : Nat) {k : Nat} (h : k < (mk2 q n).length) : (mk2 q n)[k] = (q + 2 * (k : Int), q + 2 * (k : Int) + 1) := by simp [mk2]
/-- Every field of a row was marked. -/
def Marked2 (q : Int) (lo hi : Nat) (t : TypeId) (v : Value) (X : List T2) (w : World) (e : Ending) (w' : World) : Prop := e = .returned (.int .i64 q) ∧ Row2 w' lo hi t v X ∧ Out lo hi w w'
end Go.Proofs.Ythkigilegnjglaa
