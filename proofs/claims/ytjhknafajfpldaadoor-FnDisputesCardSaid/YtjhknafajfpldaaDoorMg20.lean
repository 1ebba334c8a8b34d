/- Contracts of the models of DoesAttack, AttackersOf, VictimsOf. No conditions but that the slices have at most 2^40 elements. -/
import Derived.Test.YtjhknafajfpldaaDoorMg5
import Derived.Test.YtjhknafajfpldaaDoorMg1
namespace Go.Proofs.YtjhknafajfpldaaDoor
open Go.ChangeShapes Go.WideShapes Go.ChangeAt Go.RowKit
set_option maxRecDepth 100000
theorem pair_at {w : World} {B : Nat} {A : Option Addr} {X : List (List Int)} {m : Nat} (h : RdSS w B A X) (hp : Prs m X) {k : Nat} (hk : k < X.length) :
    ∃ (ad : Addr) (ag ao cj p q : Nat), A = some ad ∧ ad.block < B ∧ w.cell? (ad.add k) = some (.slice (some ⟨ag, ao, none⟩) 2 cj) ∧ ag < B ∧ w.cell? ⟨ag, ao, none⟩ = some (.int .i64 p) ∧ w.cell? ⟨ag, ao + 1, none⟩ = some (.int .i64 q) ∧ X[k] = [(p : Int), (q : Int)] ∧ p < m ∧ q < m := by
  obtain ⟨ad, Aj, cj, rfl, hab, hc, _, _, hrd⟩ := h.at_ hk
  obtain ⟨p, q, hx, h1, h2⟩ := hp X[k] (List.getElem_mem hk)
  rw [hx] at hc hrd
  rw [show ([(p : Int), (q : Int)] : List Int).length = 2 from rfl] at hc
  obtain ⟨ag, ao, rfl, ha2, e0, e1⟩ := rd2 hrd
  exact ⟨ad, ag, ao, cj, p, q, rfl, hab, hc, ha2, e0, e1, hx, h1, h2⟩
theorem any_take {α : Type} {X : List α} {f : α → Bool} {k : Nat} (hk : k < X.length) : (X.take (k + 1)).any f = ((X.take k).any f || f X[k]) := by
  rw [List.take_succ_eq_append_getElem hk, List.any_append]; simp
theorem any_yes {α : Type} {X : List α} {f : α → Bool} {k : Nat} (hk : k < X.length) (h : f X[k] = true) : X.any f = true := List.any_eq_true.2 ⟨_, List.getElem_mem hk, h⟩
end Go.Proofs.YtjhknafajfpldaaDoor

/- Contracts of the models of AttackersOf, VictimsOf. No conditions but that the slices have at most 2^40 elements. -/
namespace Go.Proofs.YtjhknafajfpldaaDoor
open Go.ChangeShapes Go.WideShapes Go.ChangeAt Go.RowKit
set_option maxRecDepth 100000
def atkT (X : List (List Int)) (c : Int) : List Int := (X.filter fun x => x.getD 1 0 == c).map fun x => x.getD 0 0
def vctT (X : List (List Int)) (c : Int) : List Int := (X.filter fun x => x.getD 0 0 == c).map fun x => x.getD 1 0
theorem atkT_yes {X : List (List Int)} {c : Int} {k : Nat} (hk : k < X.length) {p q : Int} (hx : X[k] = [p, q]) (h : q = c) : atkT (X.take (k + 1)) c = atkT (X.take k) c ++ [p] := by
  unfold atkT
  rw [List.take_succ_eq_append_getElem hk, List.filter_append, List.map_append, hx]
  simp [h]
theorem atkT_no {X : List (List Int)} {c : Int} {k : Nat} (hk : k < X.length) {p q : Int} (hx : X[k] = [p, q]) (h : ¬ q = c) : atkT (X.take (k + 1)) c = atkT (X.take k) c := by
  unfold atkT
  rw [List.take_succ_eq_append_getElem hk, List.filter_append, List.map_append, hx]
  simp [h]
theorem atkT_len (X : List (List Int)) (c : Int) : (atkT X c).length ≤ X.length := by
  unfold atkT
  rw [List.length_map]
  exact List.length_filter_le _ _
theorem vctT_yes {X : List (List Int)} {c : Int} {k : Nat} (hk : k < X.length) {p q : Int} (hx : X[k] = [p, q]) (h : p = c) : vctT (X.take (k + 1)) c = vctT (X.take k) c ++ [q] := by
  unfold vctT
  rw [List.take_succ_eq_append_getElem hk, List.filter_append, List.map_append, hx]
  simp [h]
theorem vctT_no {X : List (List Int)} {c : Int} {k : Nat} (hk : k < X.length) {p q : Int} (hx : X[k] = [p, q]) (h : ¬ p = c) : vctT (X.take (k + 1)) c = vctT (X.take k) c := by
  unfold vctT
  rw [List.take_succ_eq_append_getElem hk, List.filter_append, List.map_append, hx]
  simp [h]
theorem vctT_len (X : List (List Int)) (c : Int) : (vctT X c).length ≤ X.length := by
  unfold vctT
  rw [List.length_map]
  exact List.length_filter_le _ _
end Go.Proofs.YtjhknafajfpldaaDoor

/- Contract of the model of HitBy. No conditions but that the slices have at most 2^40 elements. -/
namespace Go.Proofs.YtjhknafajfpldaaDoor
open Go.ChangeShapes Go.WideShapes Go.ChangeAt Go.RowKit
set_option maxRecDepth 100000
theorem hitL_yes {X : List (List Int)} {S : List Int} {k : Nat} (h : hitP X S k = true) : hitL X S (k + 1) = hitL X S k ++ [(k : Int)] := by simp [hitL, List.range_succ, h]
theorem hitL_no {X : List (List Int)} {S : List Int} {k : Nat} (h : hitP X S k = false) : hitL X S (k + 1) = hitL X S k := by simp [hitL, List.range_succ, h]
theorem hitL_len (X : List (List Int)) (S : List Int) (k : Nat) : (hitL X S k).length ≤ k := by
  unfold hitL
  rw [List.length_map]
  exact Nat.le_trans (List.length_filter_le _ _) (by simp)
end Go.Proofs.YtjhknafajfpldaaDoor
