/- Contracts of the code's DoesAttack, VictimsOf, AttackersOf, HitBy. No conditions but that the slices have at most 2^40 elements. -/
import Derived.Test.YtobghogkflgpeaaMg6
import Derived.Test.YtobghogkflgpeaaMg1
namespace Go.Proofs.Ytobghogkflgpeaa
open Go.ChangeShapes Go.WideShapes Go.ChangeAt Go.RowKit
set_option maxRecDepth 100000
theorem lsA_yes {f : Nat → Nat} {c : Int} {k : Nat} (h : (inr c 0 9 && (f k).testBit c.toNat) = true) : lsA f c (k + 1) = lsA f c k ++ [(k : Int)] := by
  unfold lsA
  rw [List.range_succ, List.filter_append, List.filter_cons, if_pos h]
  simp
theorem lsA_no {f : Nat → Nat} {c : Int} {k : Nat} (h : (inr c 0 9 && (f k).testBit c.toNat) = false) : lsA f c (k + 1) = lsA f c k := by
  unfold lsA
  rw [List.range_succ, List.filter_append, List.filter_cons, if_neg (by rw [h]; simp)]
  simp
theorem lsA_len (f : Nat → Nat) (c : Int) (k : Nat) : (lsA f c k).length ≤ k := by
  unfold lsA
  rw [List.length_map]
  exact Nat.le_trans (List.length_filter_le _ _) (by simp)
end Go.Proofs.Ytobghogkflgpeaa
