/- Mathematics of ascending Ids: ascB. No conditions. -/
import Derived.Test.YtdhnhhicjjcmdaaInts
namespace Go.Proofs.Ytdhnhhicjjcmdaa
open Go.ChangeShapes Go.WideShapes Go.ChangeAt Go.RowKit
/-- The number at k is from 1 to 99 and greater than the one before. -/
def ascAt (S : List Int) (k : Nat) : Bool := inr (S.getD k 0) 1 99 && ((k == 0) || decide (S.getD (k - 1) 0 < S.getD k 0))
def ascB (S : List Int) : Bool := (List.range S.length).all (ascAt S)
theorem ascD {S : List Int} {k : Nat} (h : k < S.length) : S.getD k 0 = S[k] := by simp [List.getD, List.getElem?_eq_getElem h]
theorem asc_no {S : List Int} {k : Nat} (hk : k < S.length) (h : ascAt S k = false) : ascB S = false := by
  unfold ascB
  rw [List.all_eq_false]
  exact ⟨k, List.mem_range.2 hk, by simp [h]⟩
theorem asc_0 {S : List Int} {k : Nat} {x : Int} (hx : S.getD k 0 = x) (h : inr x 1 99 = false) : ascAt S k = false := by
  unfold ascAt
  rw [hx, h, Bool.false_and]
theorem asc_1 {S : List Int} {x : Int} (hx : S.getD 0 0 = x) (h : inr x 1 99 = true) : ascAt S 0 = true := by
  unfold ascAt
  rw [hx, h]
  rfl
theorem asc_2 {S : List Int} {k j : Nat} {x y : Int} (hx : S.getD k 0 = x) (e : k = j + 1) (hy : S.getD j 0 = y) (h : inr x 1 99 = true) : ascAt S k = decide (y < x) := by
  unfold ascAt
  rw [hx, show k - 1 = j by omega, hy, h, Bool.true_and, show (k == 0) = false by simp [e], Bool.false_or]
theorem asc_snoc {S : List Int} {k : Nat} (h : (List.range k).all (ascAt S) = true) (h2 : ascAt S k = true) : (List.range (k + 1)).all (ascAt S) = true := by
  rw [List.range_succ, List.all_append, h, List.all_cons, h2]
  rfl
theorem asc_end {S : List Int} {n : Nat} (hl : S.length = n) (h : (List.range n).all (ascAt S) = true) : ascB S = true := by
  unfold ascB
  rw [hl]; exact h
theorem asc_lt {S : List Int} (h : ascB S = true) : ∀ (j k : Nat) (hk : k < S.length) (hj : j < k), S[j] < S[k] := by
  unfold ascB at h
  have hall : ∀ k, k < S.length → ascAt S k = true := fun k hk => List.all_eq_true.1 h k (List.mem_range.2 hk)
  intro j k
  induction k with
  | zero => intro _ hj; omega
  | succ k ih =>
    intro hk hj
    have h1 := hall (k + 1) hk
    unfold ascAt at h1
    simp only [Bool.and_eq_true, Bool.or_eq_true, decide_eq_true_eq] at h1
    have h2 : S.getD k 0 < S.getD (k + 1) 0 := by
      rcases h1.2 with e | e
      · simp at e
      · simpa using e
    rw [ascD hk, ascD (show k < S.length by omega)] at h2
    rcases Nat.lt_or_ge j k with h3 | h3
    · have := ih (by omega) h3; omega
    · have : j = k := by omega
      subst this; exact h2
theorem asc_in {S : List Int} (h : ascB S = true) {k : Nat} (hk : k < S.length) : 1 ≤ S[k] ∧ S[k] ≤ 99 := by
  have h1 : ascAt S k = true := List.all_eq_true.1 h k (List.mem_range.2 hk)
  unfold ascAt at h1
  rw [Bool.and_eq_true, ascD hk] at h1
  have := h1.1
  unfold inr at this
  simp at this
  exact this
theorem asc_inj {S : List Int} (h : ascB S = true) {j k : Nat} (hj : j < S.length) (hk : k < S.length) (e : S[j] = S[k]) : j = k := by
  rcases Nat.lt_trichotomy j k with q | q | q
  · have := asc_lt h j k hk q; omega
  · exact q
  · have := asc_lt h k j hj q; omega
end Go.Proofs.Ytdhnhhicjjcmdaa
