/- Contracts of the functions that draw numbers from the code of a law: each returns a number of 64 bits and writes to nothing but the cursor and new memory. Condition: as for the cursor's own functions. -/
import Derived.Test.YtdhnhhicjjcmdaaDraw
namespace Go.Proofs.Ytdhnhhicjjcmdaa
open Go.ChangeShapes Go.WideShapes Go.ChangeAt Go.RowKit
def In64 (x : Int) : Prop := -9223372036854775808 ≤ x ∧ x ≤ 9223372036854775807
def InMax (x : Int) : Prop := 0 ≤ x ∧ x ≤ 1000000000000
theorem only_ofalloc {w w' : World} {o : Obj} {r : Option Nat} (h : (w.alloc o).grownBy w' r) : w.grownBy w' r := only_trans (only_alloc (only_refl w r) o) h
end Go.Proofs.Ytdhnhhicjjcmdaa
