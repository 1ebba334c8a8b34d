/- Sums of chapter 13, without code: who must reply about which points, in order. -/
import Derived.Test.YtignchefkihdaaaRaiMath
namespace Go.Proofs.Ytignchefkihdaaa
def dueF (X : List T3) : List T3 := X.filter fun x => decide (spkA x ≠ 0)
def dueL (X : List T3) : List T3 := if ptB X then dueF X else []
theorem dueF_snoc (X : List T3) {k : Nat} (hk : k < X.length) : dueF (X.take (k + 1)) = if spkA X[k] = 0 then dueF (X.take k) else dueF (X.take k) ++ [X[k]] := by
  unfold dueF
  rw [List.take_succ_eq_append_getElem hk, List.filter_append]
  by_cases h : spkA X[k] = 0 <;> simp [h]
theorem dueF_len (X : List T3) : (dueF X).length ≤ X.length := List.length_filter_le _ _
theorem dueF_pre (X : List T3) (k : Nat) : dueF (X.take k) <+: dueF X := by
  unfold dueF
  exact (List.take_prefix k X).filter _
theorem dueF_lt (X : List T3) {k : Nat} (hk : k < X.length) : (dueF (X.take k)).length < X.length := by
  have h := dueF_len (X.take k)
  rw [List.length_take] at h
  omega
/-- The ids of those about which side must speak. -/
def sidL (side : Int) (L : List T3) : List Int := (L.filter fun x => decide (spkA x = side)).map (·.1)
theorem sidL_hit {side : Int} {L : List T3} {x : T3} (h : spkA x = side) : sidL side (L ++ [x]) = sidL side L ++ [x.1] := by simp [sidL, h]
theorem sidL_miss {side : Int} {L : List T3} {x : T3} (h : ¬ spkA x = side) : sidL side (L ++ [x]) = sidL side L := by simp [sidL, h]
theorem sidL_len (side : Int) (L : List T3) : (sidL side L).length ≤ L.length := by
  unfold sidL
  rw [List.length_map]
  exact List.length_filter_le _ _
theorem spkA_in {x : T3} (h : ptOk x = true) : 0 ≤ spkA x ∧ spkA x ≤ 2 := by
  unfold ptOk at h
  simp only [Bool.and_eq_true] at h
  have hw := inrI h.1.2
  unfold spkA
  split
  · omega
  · split <;> omega
theorem mst_spk {x : T3} {side : Int} (h : ptOk x = true) : (inr side 1 2 && mstP side x) = (decide (spkA x = side) && decide (spkA x ≠ 0)) := by
  unfold ptOk at h
  simp only [Bool.and_eq_true] at h
  have hw := inrI h.1.2
  unfold mstP spkA inr
  rw [Bool.eq_iff_iff]
  by_cases h0 : x.2.2 = 0
  · simp [h0]; omega
  · by_cases h2 : x.2.2 = 2
    · simp [h2]; omega
    · simp [h0, h2]
theorem mst_due (X : List T3) (side : Int) : mstL X side = sidL side (dueL X) := by
  unfold mstL dueL sidL
  cases hb : ptB X with
  | false => simp
  | true =>
    have hok : ∀ x ∈ X, ptOk x = true := fun x hx => by
      obtain ⟨i, hi, rfl⟩ := List.getElem_of_mem hx
      exact (ptB_iff.1 hb).1 i hi
    simp only [Bool.true_and, if_true]
    unfold dueF
    rw [List.filter_filter]
    cases hs : inr side 1 2 with
    | true =>
      simp only [if_true]
      congr 1
      refine List.filter_congr fun x hx => ?_
      have := mst_spk (side := side) (hok x hx)
      rwa [hs, Bool.true_and] at this
    | false =>
      simp only [Bool.false_eq_true, if_false]
      symm
      rw [List.map_eq_nil_iff, List.filter_eq_nil_iff]
      intro x hx
      have := mst_spk (side := side) (hok x hx)
      rw [hs, Bool.false_and] at this
      rw [← this]
      simp
theorem sidL_nil {L : List T3} (h : ∀ x ∈ L, spkA x = 1 ∨ spkA x = 2) : (decide ((sidL 1 L).length = 0) && decide ((sidL 2 L).length = 0)) = L.isEmpty := by
  cases L with
  | nil => rfl
  | cons x L =>
    unfold sidL
    rcases h x List.mem_cons_self with e | e <;> simp [e]
theorem set_due (X : List T3) : setP X = (ptB X && (dueL X).isEmpty) := by
  unfold setP
  rw [mst_due, mst_due, Bool.and_assoc]
  cases hb : ptB X with
  | false => rfl
  | true =>
    rw [sidL_nil]
    intro x hx
    unfold dueL at hx
    rw [if_pos hb] at hx
    unfold dueF at hx
    obtain ⟨hm, h0⟩ := List.mem_filter.1 hx
    obtain ⟨i, hi, rfl⟩ := List.getElem_of_mem hm
    have := spkA_in ((ptB_iff.1 hb).1 i hi)
    have h0 := of_decide_eq_true h0
    omega
end Go.Proofs.Ytignchefkihdaaa
