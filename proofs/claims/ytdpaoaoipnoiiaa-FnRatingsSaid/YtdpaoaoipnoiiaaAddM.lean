/- Contract of the model of AddAttack. Condition: the slices have at most 2^40 elements. -/
import Derived.Test.YtdpaoaoipnoiiaaAddC
namespace Go.Proofs.Ytdpaoaoipnoiiaa
open Go.ChangeShapes Go.WideShapes Go.ChangeAt Go.RowKit
set_option maxRecDepth 100000
theorem pair_at2 {w : World} {B : Nat} {A : Option Addr} {X : List (List Int)} {m : Nat} (h : RdSS w B A X) (hp : Prs m X) {k : Nat} (hk : k < X.length) :
    ∃ (ad : Addr) (ag ao cj p q : Nat), A = some ad ∧ ad.block < B ∧ w.cell? (ad.add k) = some (.slice (some ⟨ag, ao, none⟩) 2 cj) ∧ w.cell? ⟨ag, ao, none⟩ = some (.int .i64 p) ∧ w.cell? ⟨ag, ao + 1, none⟩ = some (.int .i64 q) ∧ X[k] = [(p : Int), (q : Int)] ∧ Rd w B (some ⟨ag, ao, none⟩) (ivs [(p : Int), (q : Int)]) := by
  obtain ⟨ad, Aj, cj, rfl, hab, hc, _, _, hrd⟩ := h.at_ hk
  obtain ⟨p, q, hx, h1, h2⟩ := hp X[k] (List.getElem_mem hk)
  rw [hx] at hc hrd
  rw [show ([(p : Int), (q : Int)] : List Int).length = 2 from rfl] at hc
  obtain ⟨ag, ao, rfl, ha2, e0, e1⟩ := rd2 hrd
  exact ⟨ad, ag, ao, cj, p, q, rfl, hab, hc, e0, e1, hx, hrd⟩
def outT (a b : Int) (Y : List (List Int)) : List (List Int) := if Y.any (gtP · a b) then ins a b Y else Y
theorem outT_len (a b : Int) (Y : List (List Int)) : (outT a b Y).length ≤ Y.length + 1 := by
  unfold outT
  split
  · rw [ins_len]; exact Nat.le_refl _
  · omega
theorem outT_end (a b : Int) (Y : List (List Int)) (h : Y.any (gtP · a b) = true) : outT a b Y = ins a b Y := by unfold outT; rw [if_pos h]
theorem outT_not (a b : Int) (Y : List (List Int)) (h : Y.any (gtP · a b) = false) : outT a b Y ++ [[a, b]] = ins a b Y := by unfold outT; rw [h, ins_none h]; rfl
theorem outT_any {a b : Int} {Y : List (List Int)} {x : List Int} (h : Y.any (gtP · a b) = true) : outT a b (Y ++ [x]) = outT a b Y ++ [x] := by
  unfold outT
  rw [if_pos h, if_pos (by rw [List.any_append, h]; rfl), ins_snoc_any h]
theorem outT_no {a b : Int} {Y : List (List Int)} {x : List Int} (h : Y.any (gtP · a b) = false) (hx : gtP x a b = false) : outT a b (Y ++ [x]) = outT a b Y ++ [x] := by
  have h2 : (Y ++ [x]).any (gtP · a b) = false := by rw [List.any_append, h]; simp [hx]
  unfold outT
  rw [h, h2]
  rfl
theorem outT_yes {a b : Int} {Y : List (List Int)} {x : List Int} (h : Y.any (gtP · a b) = false) (hx : gtP x a b = true) : outT a b (Y ++ [x]) = outT a b Y ++ [[a, b]] ++ [x] := by
  have h2 : (Y ++ [x]).any (gtP · a b) = true := by rw [List.any_append]; simp [hx]
  unfold outT
  rw [h, if_pos h2, ins_first hx h]
  rfl
end Go.Proofs.Ytdpaoaoipnoiiaa
