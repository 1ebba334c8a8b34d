/- Contracts of the laws' own functions markPointS, heldPointS. No conditions but the sizes. -/
import Derived.Test.YtamocldcfbjfgaaPointB
import Derived.Test.YtamocldcfbjfgaaOne
namespace Go.Proofs.Ytamocldcfbjfgaa
open Go.ChangeShapes Go.WideShapes Go.ChangeAt Go.RowKit
set_option maxRecDepth 100000
def mk3 (q : Int) (n : Nat) : List T3 := (List.range n).map fun (i : Nat) => (q + 3 * (i : Int), q + 3 * (i : Int) + 1, q + 3 * (i : Int) + 2)
theorem mk3_len (q : Int) (n : Nat) : (mk3 q n).length = n := by simp [mk3]
theorem mk3_get (q : Int) (n : Nat) {k : Nat} (h : k < (mk3 q n).length) : (mk3 q n)[k] = (q + 3 * (k : Int), q + 3 * (k : Int) + 1, q + 3 * (k : Int) + 2) := by simp [mk3]
/-- Every field of a row was marked. -/
def Marked3 (q : Int) (lo hi : Nat) (t : TypeId) (v : Value) (X : List T3) (w : World) (e : Ending) (w' : World) : Prop := e = .returned (.int .i64 q) ∧ Row3 w' lo hi t v X ∧ Out lo hi w w'
end Go.Proofs.Ytamocldcfbjfgaa
