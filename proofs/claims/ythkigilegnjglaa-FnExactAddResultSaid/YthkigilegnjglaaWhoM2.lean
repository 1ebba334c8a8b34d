/- Contracts of the models of AttackersOf, VictimsOf. No conditions but that the slices have at most 2^40 elements. -/
import Derived.Test.YthkigilegnjglaaWhoM
import Derived.Test.YthkigilegnjglaaMg1
namespace Go.Proofs.Ythkigilegnjglaa
open Go.ChangeShapes Go.WideShapes Go.ChangeAt Go.RowKit
set_option maxRecDepth 100000
def atkT (X : List (List Int)) (c : Int) : List Int := (X.filter fun x => x.getD 1 0 == c).map fun x => x.getD 0 0
def vctT (X : List (List Int)) (c : Int) : List Int := (X.filter fun x => x.getD 0 0 == c).map fun x => x.getD 1 0
theorem atkT_yes {X : List (List Int)} {c : Int} {k : Nat} (hk : k < X.length) {p q : Int} (hx : X[k] = [p, q]) (h : q = c) : atkT (X.take (k + 1)) c = atkT (X.take k) c ++ [p] := by
  unfold atkT
  rw [List.take_succ_eq_append_getElem hk, List.filter_append, List.map_append, hx]
  simp [h]
theorem atkT_no {X : List (List Int)} {c : Int} {k : Nat} (hk : k < X.length) {p q : Int} (hx : X[k] = [p, q]) (h : ¬ q = c) : atkT (X.take (k + 1)) c = atkT (X.take k) c := by
  unfold atkT
  rw [List.take_succ_eq_append_getElem hk, List.filter_append, List.map_append, hx]
  simp [h]
theorem atkT_len (X : List (List Int)) (c : Int) : (atkT X c).length ≤ X.length := by
  unfold atkT
  rw [List.length_map]
  exact List.length_filter_le _ _
theorem vctT_yes {X : List (List Int)} {c : Int} {k : Nat} (hk : k < X.length) {p q : Int} (hx : X[k] = [p, q]) (h : p = c) : vctT (X.take (k + 1)) c = vctT (X.take k) c ++ [q] := by
  unfold vctT
  rw [List.take_succ_eq_append_getElem hk, List.filter_append, List.map_append, hx]
  simp [h]
theorem vctT_no {X : List (List Int)} {c : Int} {k : Nat} (hk : k < X.length) {p q : Int} (hx : X[k] = [p, q]) (h : ¬ p = c) : vctT (X.take (k + 1)) c = vctT (X.take k) c := by
  unfold vctT
  rw [List.take_succ_eq_append_getElem hk, List.filter_append, List.map_append, hx]
  simp [h]
theorem vctT_len (X : List (List Int)) (c : Int) : (vctT X c).length ≤ X.length := by
  unfold vctT
  rw [List.length_map]
  exact List.length_filter_le _ _
end Go.Proofs.Ythkigilegnjglaa
