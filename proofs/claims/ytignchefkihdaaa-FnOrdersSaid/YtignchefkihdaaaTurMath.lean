/- Sums of chapter 15, without code: two lists joined in turn, and when nobody speaks twice. -/
import Derived.Test.YtignchefkihdaaaOrdMath
namespace Go.Proofs.Ytignchefkihdaaa
theorem perm_two {a b : List Int} (n : Nat) (hl : a.length = n) (hb : b.length = n) : ∀ k, k ≤ n → (ordP a b n k).Perm (a.take k ++ b.take k)
  | 0, _ => by simp [ordP]
  | k + 1, hk => by
    have ih := perm_two n hl hb k (by omega)
    have ga : a.getD k 0 = a[k]'(by omega) := by simp [List.getD, show k < a.length by omega]
    have gb : b.getD k 0 = b[k]'(by omega) := by simp [List.getD, show k < b.length by omega]
    rw [ordP_succ, List.take_succ_eq_append_getElem (show k < a.length by omega), List.take_succ_eq_append_getElem (show k < b.length by omega), ← ga, ← gb]
    have h1 : ([(ordQ a b n k).1, (ordQ a b n k).2] : List Int).Perm [a.getD k 0, b.getD k 0] := by
      unfold ordQ
      split
      · exact List.Perm.swap _ _ _
      · exact List.Perm.refl _
    refine (ih.append h1).trans ?_
    generalize a.getD k 0 = x
    generalize b.getD k 0 = y
    generalize a.take k = p
    generalize b.take k = q
    rw [List.append_assoc, List.append_assoc]
    refine List.Perm.append_left p ?_
    rw [show q ++ [x, y] = (q ++ [x]) ++ [y] by simp, show [x] ++ (q ++ [y]) = ([x] ++ q) ++ [y] by simp]
    exact List.Perm.append_right [y] List.perm_append_comm
theorem nd_ord {a b : List Int} (hl : b.length = a.length) : (a ++ b).Nodup ↔ (ordP a b a.length a.length).Nodup := by
  have h := perm_two a.length rfl hl a.length (Nat.le_refl _)
  rw [List.take_of_length_le (Nat.le_refl _), List.take_of_length_le (by omega)] at h
  exact h.symm.nodup_iff
/-- The order of the first k turns, the last one not turned round. -/
def mrgL (a b : List Int) (k : Nat) : List Int := (List.range k).flatMap fun i => [a.getD i 0, b.getD i 0]
theorem mrg_succ (a b : List Int) (k : Nat) : mrgL a b (k + 1) = mrgL a b k ++ [a.getD k 0, b.getD k 0] := by
  unfold mrgL
  rw [List.range_succ, List.flatMap_append]
  simp
theorem mrg_len (a b : List Int) : ∀ k, (mrgL a b k).length = 2 * k
  | 0 => rfl
  | k + 1 => by rw [mrg_succ, List.length_append, mrg_len a b k]; simp; omega
theorem ord_mrg (a b : List Int) (n : Nat) : ∀ k, k < n → ordP a b n k = mrgL a b k
  | 0, _ => rfl
  | k + 1, h => by
    rw [ordP_succ, mrg_succ, ord_mrg a b n k (by omega)]
    unfold ordQ
    rw [if_neg (by omega)]
theorem ord_last (a b : List Int) (m : Nat) : ordP a b (m + 1) (m + 1) = mrgL a b m ++ [b.getD m 0, a.getD m 0] := by
  rw [ordP_succ, ord_mrg a b (m + 1) m (by omega)]
  unfold ordQ
  rw [if_pos rfl]
theorem turO_nd {a b : List Int} (h1 : b.length = a.length) (h2 : 1 ≤ a.length) (h3 : a.length ≤ 6) : turO a b = decide (a ++ b).Nodup := by
  unfold turO
  rw [decide_eq_true h1.symm, decide_eq_true (show 1 ≤ a.length ∧ a.length ≤ 6 from ⟨h2, h3⟩), Bool.true_and, Bool.true_and]
  exact (decide_eq_decide.2 (nd_ord h1)).symm
theorem turX_no {a b : List Int} (h : turO a b = false) : turX a b = [] := by unfold turX; rw [h]; rfl
theorem turX_yes {a b : List Int} (h : turO a b = true) : turX a b = ordP a b a.length a.length := by unfold turX; rw [h]; rfl
theorem turO_len {a b : List Int} (h : ¬ b.length = a.length) : turO a b = false := by
  unfold turO
  rw [decide_eq_false (show ¬ a.length = b.length by omega), Bool.false_and]
theorem turO_big {a b : List Int} (h : ¬ (1 ≤ a.length ∧ a.length ≤ 6)) : turO a b = false := by
  unfold turO
  rw [decide_eq_false h, Bool.false_and, Bool.and_false]
theorem turX_len (a b : List Int) : (turX a b).length ≤ 12 := by
  cases h : turO a b with
  | false => rw [turX_no h]; simp
  | true =>
    rw [turX_yes h, ordP_len]
    have := (tur_parts h).2.2.1
    omega
end Go.Proofs.Ytignchefkihdaaa
