/- Sums of chapter 12 as the loops keep them: the place of a formula in a list, whether no two are the same, the least that is taken back. No conditions. -/
import Derived.Test.YtignchefkihdaaaDoorStoMath
namespace Go.Proofs.YtignchefkihdaaaDoor
def fndN (X : List (List Int)) (f : List Int) : Nat := X.findIdx (fun x => decide (x = f))
/-- The place of f in X, or -1. -/
def fndI (X : List (List Int)) (f : List Int) : Int := if fndN X f < X.length then (fndN X f : Int) else -1
theorem fnd_at {X : List (List Int)} {f : List Int} {k : Nat} (hk : k < X.length) (h : X[k] = f) (hno : ∀ j (hj : j < k), X[j] ≠ f) : fndI X f = (k : Int) := by
  have e : fndN X f = k := (List.findIdx_eq hk).2 ⟨by simp [h], fun j hj => by simpa using hno j hj⟩
  unfold fndI
  rw [e, if_pos hk]
theorem fnd_none {X : List (List Int)} {f : List Int} (hno : ∀ j (hj : j < X.length), X[j] ≠ f) : fndI X f = -1 := by
  unfold fndI
  rw [if_neg]
  intro h
  have := List.findIdx_getElem (w := h)
  exact hno _ h (of_decide_eq_true this)
theorem fnd_cases (X : List (List Int)) (f : List Int) : (fndI X f = -1 ∧ ∀ x ∈ X, x ≠ f) ∨ ∃ k, ∃ h : k < X.length, fndI X f = (k : Int) ∧ X[k] = f ∧ ∀ j (hj : j < k), X[j] ≠ f := by
  by_cases h : fndN X f < X.length
  · right
    have h1 := List.findIdx_getElem (w := h)
    refine ⟨fndN X f, h, by unfold fndI; rw [if_pos h], of_decide_eq_true h1, fun j hj => ?_⟩
    have := List.not_of_lt_findIdx hj
    simpa using this
  · left
    refine ⟨by unfold fndI; rw [if_neg h], fun x hx e => h ?_⟩
    exact List.findIdx_lt_length.2 ⟨x, hx, by simpa using e⟩
theorem fnd_lo (X : List (List Int)) (f : List Int) : -1 ≤ fndI X f ∧ fndI X f ≤ X.length := by
  rcases fnd_cases X f with ⟨h, _⟩ | ⟨k, hk, h, _⟩ <;> omega
/-- What is left when f is taken back, and whether it was there. -/
def tbX (X : List (List Int)) (f : List Int) : List (List Int) := if fndN X f < X.length then X.take (fndN X f) ++ X.drop (fndN X f + 1) else X
def tbB (X : List (List Int)) (f : List Int) : Bool := decide (fndN X f < X.length)
theorem tb_cases (X : List (List Int)) (f : List Int) : (fndI X f = -1 ∧ tbB X f = false ∧ tbX X f = X) ∨ ∃ k, k < X.length ∧ fndI X f = (k : Int) ∧ tbB X f = true ∧ tbX X f = X.take k ++ X.drop (k + 1) := by
  by_cases h : fndN X f < X.length
  · right
    exact ⟨fndN X f, h, by unfold fndI; rw [if_pos h], decide_eq_true h, by unfold tbX; rw [if_pos h]⟩
  · left
    exact ⟨by unfold fndI; rw [if_neg h], decide_eq_false h, by unfold tbX; rw [if_neg h]⟩
def difB (X : List (List Int)) : Bool := (List.range X.length).all (fun i => !(dupS X i))
theorem storeB_eq (X : List (List Int)) : storeB X = (difB X && decide (X.length ≤ 12) && canR X) := rfl
theorem dupS_at {X : List (List Int)} {i : Nat} (hi : i < X.length) : dupS X i = decide (X[i] ∈ X.take i) := by
  unfold dupS
  rw [show X.getD i [] = X[i] by simp [List.getD, hi], List.contains_eq_mem]
theorem dup_pre {X : List (List Int)} {i : Nat} (hi : i < X.length) : decide (0 ≤ fndI (X.take i) X[i]) = dupS X i := by
  rw [dupS_at hi, decide_eq_decide]
  rcases fnd_cases (X.take i) X[i] with ⟨h, hno⟩ | ⟨k, hk, h, he, _⟩
  · rw [h]
    constructor
    · intro h; omega
    · intro h; exact absurd rfl (hno _ h)
  · rw [h]
    constructor
    · intro _; rw [← he]; exact List.getElem_mem _
    · intro _; omega
theorem dup_fnd {X : List (List Int)} {i : Nat} (hi : i < X.length) : decide (fndI X X[i] < (i : Int)) = dupS X i := by
  rw [dupS_at hi, decide_eq_decide]
  rcases fnd_cases X X[i] with ⟨h, hno⟩ | ⟨k, hk, h, he, hlt⟩
  · exact absurd rfl (hno X[i] (List.getElem_mem _))
  · rw [h]
    constructor
    · intro h
      rw [← he, List.mem_take_iff_getElem]
      exact ⟨k, by omega, rfl⟩
    · intro h
      rw [List.mem_take_iff_getElem] at h
      obtain ⟨j, hj, e⟩ := h
      rcases Nat.lt_or_ge j k with h' | h'
      · exact absurd e (hlt j h')
      · omega
theorem difB_bad {X : List (List Int)} {i : Nat} (hi : i < X.length) (h : dupS X i = true) : difB X = false := by
  cases hd : difB X with
  | false => rfl
  | true =>
    have := List.all_eq_true.1 hd i (List.mem_range.2 hi)
    rw [h] at this
    cases this
theorem difB_good {X : List (List Int)} (h : ∀ j, j < X.length → dupS X j = false) : difB X = true := by
  unfold difB
  rw [List.all_eq_true]
  intro j hj
  rw [h j (List.mem_range.1 hj)]
  rfl
theorem badN_le (X : List (List Int)) (m : Nat) : badN X m ≤ X.length := List.length_filter_le _ _
/-- The least so far, as the code keeps it: -1 as long as there is none. -/
def ldI (X : List (List Int)) (f : List Int) : Nat → Int
  | 0 => -1
  | m + 1 => if valR f m && (decide (ldI X f m < 0) || decide ((badN X m : Int) < ldI X f m)) then (badN X m : Int) else ldI X f m
/-- The least so far, as the model keeps it. -/
def lsN (X : List (List Int)) (f : List Int) (m : Nat) : Nat := ((List.range m).filter (valR f)).foldl (fun b m => min b (badN X m)) X.length
theorem lsN_succ (X : List (List Int)) (f : List Int) (m : Nat) : lsN X f (m + 1) = if valR f m then min (lsN X f m) (badN X m) else lsN X f m := by
  unfold lsN
  rw [List.range_succ, List.filter_append, List.foldl_append]
  cases h : valR f m <;> simp [h]
theorem lsN_le (X : List (List Int)) (f : List Int) (m : Nat) : lsN X f m ≤ X.length := (min_le (badN X) _ _).1
theorem ldI_eq (X : List (List Int)) (f : List Int) : ∀ m, ldI X f m = if (List.range m).any (valR f) then (lsN X f m : Int) else -1
  | 0 => by simp [ldI]
  | m + 1 => by
    have ih := ldI_eq X f m
    have hb := badN_le X m
    have hl := lsN_le X f m
    unfold ldI
    rw [ih, lsN_succ, List.range_succ, List.any_append]
    cases hv : valR f m with
    | false => simp [hv]
    | true =>
      cases ha : (List.range m).any (valR f) with
      | false =>
        have h0 : lsN X f m = X.length := by
          unfold lsN
          rw [List.filter_eq_nil_iff.2 fun a ha2 => by have := List.any_eq_false.1 ha a ha2; simpa using this]
          rfl
        simp [hv, h0]
        omega
      | true =>
        simp only [hv, Bool.true_and, Bool.true_or, if_true, List.any_cons, List.any_nil, Bool.or_false]
        rw [decide_eq_false (show ¬ ((lsN X f m : Int) < 0) by omega), Bool.false_or]
        by_cases h : badN X m < lsN X f m
        · rw [decide_eq_true (by omega), if_pos rfl]; omega
        · rw [decide_eq_false (by omega), if_neg (by simp)]; omega
theorem can_one (f : List Int) : canR [f] = (isF f && (List.range 64).any (valR f)) := by
  unfold canR okR
  congr 1
  · simp
  · congr 1
    funext m
    simp [allR]
theorem any_isF {f : List Int} (h : (List.range 64).any (valR f) = true) : isF f = true := by
  rw [List.any_eq_true] at h
  obtain ⟨m, _, hv⟩ := h
  cases hf : isF f with
  | true => rfl
  | false => unfold valR valB at hv; rw [hf] at hv; cases hv
theorem ldI_lst {X : List (List Int)} (f : List Int) (h : storeB X = true) : ldI X f 64 = lstN X f := by
  rw [ldI_eq]
  unfold lstN
  rw [h, can_one, Bool.true_and]
  cases ha : (List.range 64).any (valR f) with
  | true => rw [any_isF ha]; rfl
  | false => rw [Bool.and_false]; rfl
theorem lsN_lst {X : List (List Int)} {f : List Int} (h : storeB X = true) (hc : canR [f] = true) : lstN X f = (lsN X f 64 : Nat) := by
  unfold lstN
  rw [h, hc]
  rfl
theorem lst_off {X : List (List Int)} {f : List Int} (h : (storeB X && canR [f]) = false) : lstN X f = -1 := by
  unfold lstN
  rw [h]
  rfl
end Go.Proofs.YtignchefkihdaaaDoor
