/- The mathematics of RateAll (chapter 25): what one result makes of ratings (rat1), what all make (ratL), and that no rating is lost. No conditions. -/
import Derived.Test.YtdpaoaoipnoiiaaSumR
namespace Go.Proofs.Ytdpaoaoipnoiiaa
def isRb (r : List Int) (n : Nat) : Bool := decide (r.length = 2) && inr (r.getD 0 0) 0 ((n : Int) - 1) && inr (r.getD 1 0) 0 ((n : Int) - 1) && !(r.getD 0 0 == r.getD 1 0)
def rat1 (Z : List Int) (r : List Int) : List Int :=
  if isRb r Z.length then
    let i := (r.getD 0 0).toNat
    let j := (r.getD 1 0).toNat
    let a := Z.getD i 0
    let b := Z.getD j 0
    (Z.set i (a + excI a b true)).set j (b - excI a b true)
  else Z
def ratL (Z : List Int) (R : List (List Int)) : List Int := R.foldl rat1 Z
theorem ratL_succ {Z : List Int} {R : List (List Int)} {k : Nat} (hk : k < R.length) : ratL Z (R.take (k + 1)) = rat1 (ratL Z (R.take k)) R[k] := by
  unfold ratL
  rw [List.take_succ_eq_append_getElem hk, List.foldl_append]
  rfl
theorem rat1_no {Z r : List Int} (h : isRb r Z.length = false) : rat1 Z r = Z := by unfold rat1; rw [h]; rfl
theorem isRb_iff {r : List Int} {n : Nat} : isRb r n = true ↔ ∃ i j : Nat, r = [(i : Int), (j : Int)] ∧ i < n ∧ j < n ∧ i ≠ j := by
  constructor
  · intro h
    simp only [isRb, Bool.and_eq_true, decide_eq_true_eq] at h
    obtain ⟨⟨⟨h1, h2⟩, h3⟩, h4⟩ := h
    match r, h1 with
    | [p, q], _ =>
      simp only [List.getD_cons_zero, List.getD_cons_succ] at h2 h3 h4
      have h2 := inr_iff.1 h2
      have h3 := inr_iff.1 h3
      obtain ⟨i, rfl⟩ := Int.eq_ofNat_of_zero_le h2.1
      obtain ⟨j, rfl⟩ := Int.eq_ofNat_of_zero_le h3.1
      refine ⟨i, j, rfl, by omega, by omega, ?_⟩
      rintro rfl
      simp at h4
  · rintro ⟨i, j, rfl, hi, hj, hne⟩
    simp only [isRb, Bool.and_eq_true, decide_eq_true_eq, List.getD_cons_zero, List.getD_cons_succ]
    refine ⟨⟨⟨rfl, inr_iff.2 ⟨by omega, by omega⟩⟩, inr_iff.2 ⟨by omega, by omega⟩⟩, ?_⟩
    simp
    omega
theorem rat1_ok {Z : List Int} {i j : Nat} (hi : i < Z.length) (hj : j < Z.length) (hne : i ≠ j) : rat1 Z [(i : Int), (j : Int)] = (Z.set i (Z[i] + excI Z[i] Z[j] true)).set j (Z[j] - excI Z[i] Z[j] true) := by
  unfold rat1
  rw [if_pos (isRb_iff.2 ⟨i, j, rfl, hi, hj, hne⟩)]
  simp [List.getD, hi, hj]
theorem rat1_len (Z r : List Int) : (rat1 Z r).length = Z.length := by
  unfold rat1
  split <;> simp
theorem ratL_len (Z : List Int) (R : List (List Int)) : (ratL Z R).length = Z.length := by
  unfold ratL
  induction R generalizing Z with
  | nil => rfl
  | cons r R ih => rw [List.foldl_cons, ih, rat1_len]
def W64 (Z : List Int) : Prop := ∀ x ∈ Z, -9223372036854775808 ≤ x ∧ x ≤ 9223372036854775807
theorem exc_in64 {a b : Int} (ha : -9223372036854775808 ≤ a ∧ a ≤ 9223372036854775807) (hb : -9223372036854775808 ≤ b ∧ b ≤ 9223372036854775807) :
    (-9223372036854775808 ≤ a + excI a b true ∧ a + excI a b true ≤ 9223372036854775807) ∧ (-9223372036854775808 ≤ b - excI a b true ∧ b - excI a b true ≤ 9223372036854775807) := by
  cases q : ratB a b with
  | false => rw [excI_no q]; omega
  | true =>
    rw [excI_ok q]
    have := chg_in (e := expV a b) (won := true) q
    have := ratB_iff.1 q
    omega
theorem W64.rat1 {Z : List Int} (h : W64 Z) (r : List Int) : W64 (rat1 Z r) := by
  cases q : isRb r Z.length with
  | false => rw [rat1_no q]; exact h
  | true =>
    obtain ⟨i, j, rfl, hi, hj, hne⟩ := isRb_iff.1 q
    rw [rat1_ok hi hj hne]
    have he := exc_in64 (h _ (List.getElem_mem hi)) (h _ (List.getElem_mem hj))
    intro x hx
    rcases List.mem_or_eq_of_mem_set hx with h1 | h1
    · rcases List.mem_or_eq_of_mem_set h1 with h2 | h2
      · exact h x h2
      · rw [h2]; exact he.1
    · rw [h1]; exact he.2
theorem W64.ratL {Z : List Int} (h : W64 Z) (R : List (List Int)) : W64 (ratL Z R) := by
  unfold Proofs.Ytdpaoaoipnoiiaa.ratL
  induction R generalizing Z with
  | nil => exact h
  | cons r R ih => exact ih (h.rat1 r)
/-- The sum of all ratings, each within the scale. -/
def sumC (Z : List Int) : Int := (Z.map fun x => clp x 0 3000).sum
theorem sumR_all (Z : List Int) : sumR Z Z.length = sumC Z := by unfold sumR sumC; rw [List.take_length]
theorem sum_set (f : Int → Int) : ∀ (Z : List Int) (i : Nat) (h : i < Z.length) (y : Int), ((Z.set i y).map f).sum = (Z.map f).sum - f Z[i] + f y
  | x :: Z, 0, _, y => by simp; omega
  | x :: Z, i + 1, h, y => by
    have := sum_set f Z i (by simpa using h) y
    simp only [List.set_cons_succ, List.map_cons, List.sum_cons, List.getElem_cons_succ, this]
    omega
theorem clp_id {x : Int} (h : 0 ≤ x ∧ x ≤ 3000) : clp x 0 3000 = x := by
  have := clp_cases x 0 3000 (by omega)
  omega
theorem sumC_rat1 (Z r : List Int) : sumC (rat1 Z r) = sumC Z := by
  cases q : isRb r Z.length with
  | false => rw [rat1_no q]
  | true =>
    obtain ⟨i, j, rfl, hi, hj, hne⟩ := isRb_iff.1 q
    rw [rat1_ok hi hj hne]
    unfold sumC
    rw [sum_set _ _ j (by simpa using hj), sum_set _ _ i hi, List.getElem_set_ne hne]
    cases v : ratB Z[i] Z[j] with
    | false => rw [excI_no v]; simp
    | true =>
      rw [excI_ok v]
      have h1 := chg_in (e := expV Z[i] Z[j]) (won := true) v
      have h2 := ratB_iff.1 v
      rw [clp_id (x := Z[i] + _) (by omega), clp_id (x := Z[j] - _) (by omega), clp_id (x := Z[i]) h2.1, clp_id (x := Z[j]) h2.2]
      omega
theorem sumC_ratL (Z : List Int) (R : List (List Int)) : sumC (ratL Z R) = sumC Z := by
  unfold ratL
  induction R generalizing Z with
  | nil => rfl
  | cons r R ih => rw [List.foldl_cons, ih, sumC_rat1]
end Go.Proofs.Ytdpaoaoipnoiiaa
