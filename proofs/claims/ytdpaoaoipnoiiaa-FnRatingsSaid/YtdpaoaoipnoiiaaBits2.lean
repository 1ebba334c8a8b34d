/- Contracts of the code's victims of a claim, and of the list of a row's claims. Conditions: at most 10 claims, rows below 2^16. -/
import Derived.Test.YtdpaoaoipnoiiaaBits
import Derived.Test.YtdpaoaoipnoiiaaMg2
namespace Go.Proofs.Ytdpaoaoipnoiiaa
open Go.ChangeShapes Go.WideShapes Go.ChangeAt Go.RowKit
def vic (n : Int) (f : Nat → Nat) (c : Int) : Nat := if inr c 0 (n - 1) then f c.toNat else 0
/-- The claims of a row, in order. -/
def lsT (x k : Nat) : List Int := ((List.range k).filter (x.testBit ·)).map fun (j : Nat) => (j : Int)
theorem lsT_yes {x k : Nat} (h : x.testBit k = true) : lsT x (k + 1) = lsT x k ++ [(k : Int)] := by simp [lsT, List.range_succ, h]
theorem lsT_no {x k : Nat} (h : x.testBit k = false) : lsT x (k + 1) = lsT x k := by simp [lsT, List.range_succ, h]
theorem lsT_len (x k : Nat) : (lsT x k).length ≤ k := by
  unfold lsT
  rw [List.length_map]
  exact Nat.le_trans (List.length_filter_le _ _) (by simp)
theorem ivs_snoc_l (zs : List Int) (x : Int) : ivs zs ++ [Value.int .i64 x] = ivs (zs ++ [x]) := by simp [ivs]
end Go.Proofs.Ytdpaoaoipnoiiaa
