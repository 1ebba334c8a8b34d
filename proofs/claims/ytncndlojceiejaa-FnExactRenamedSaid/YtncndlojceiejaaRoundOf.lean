/- Contracts of the code's Grounded and RoundOf. No conditions but that the slices have at most 2^40 elements. -/
import Derived.Test.YtncndlojceiejaaGrounded
import Derived.Test.YtncndlojceiejaaGroundM2
namespace Go.Proofs.Ytncndlojceiejaa
open Go.ChangeShapes Go.WideShapes Go.ChangeAt Go.RowKit Go.Shelf
attribute [local go_sem] Oper.semAt_some
set_option maxRecDepth 100000
theorem stop_it {N : Int} {X : List (List Int)} {K : Nat} (hK : itB (rn N X) (rf N X) (K + 1) = itB (rn N X) (rf N X) K) (hgrow : ∀ j, j < K → itB (rn N X) (rf N X) (j + 1) ≠ itB (rn N X) (rf N X) j) : itS N X K = grd N X :=
  it_fix' (fun j hj e => hgrow j hj ((itB_eq N X _ _).2 e)) ((itB_eq N X _ _).1 hK)
/-- 'has' of what stands after k rounds. -/
theorem has_it (N : Int) (X : List (List Int)) (c : Int) (k : Nat) : (inr c 0 9 && (itB (rn N X) (rf N X) k).testBit c.toNat) = (itS N X k).contains c := by
  rw [itB_code, bS_bit]
  by_cases h : inr c 0 9 = true
  · have h' : 0 ≤ c ∧ c ≤ 9 := by simpa [inr] using h
    obtain ⟨j, rfl⟩ := Int.eq_ofNat_of_zero_le h'.1
    have : j < 10 := by omega
    rw [h, Int.toNat_natCast, decide_eq_true this]
    simp
  · rw [show inr c 0 9 = false by simpa using h, Bool.false_and]
    symm
    rw [← Bool.not_eq_true]
    intro hc
    have hm : c ∈ itS N X k := by simpa using hc
    by_cases hg : gB N X = true
    · have h0 := hg
      obtain ⟨n, rfl, hn, hp, _⟩ := gB_ok hg
      obtain ⟨p, rfl, hlt⟩ := set_lt h0 (it_set h0 hp k) hm
      exact h (inr_t (by omega) (by omega))
    · rw [it_none (by simpa using hg)] at hm
      cases hm
theorem rndT_hit {N : Int} {X : List (List Int)} {c : Int} {x : Nat} (hx : (itS N X (x + 1)).contains c = true) (hno : ∀ y, y < x → (itS N X (y + 1)).contains c = false) : ∀ fu k, k ≤ x → x < k + fu → rndT N X c fu k = ((x + 1 : Nat) : Int)
  | 0, k, h1, h2 => absurd h2 (by omega)
  | fu + 1, k, h1, h2 => by
    unfold rndT
    by_cases e : k = x
    · subst e
      rw [hx]; rfl
    · rw [hno k (by omega)]
      exact rndT_hit hx hno fu (k + 1) (by omega) (by omega)
theorem rndT_miss {N : Int} {X : List (List Int)} {c : Int} (hno : ∀ y, (itS N X (y + 1)).contains c = false) : ∀ fu k, rndT N X c fu k = -1
  | 0, k => rfl
  | fu + 1, k => by
    unfold rndT
    rw [hno k]
    exact rndT_miss hno fu (k + 1)
section
variable {N : Int} {X : List (List Int)} {c : Int} {K : Nat} (hK : itB (rn N X) (rf N X) (K + 1) = itB (rn N X) (rf N X) K) (hgrow : ∀ j, j < K → itB (rn N X) (rf N X) (j + 1) ≠ itB (rn N X) (rf N X) j)
include hK hgrow
theorem rnd_hit {x : Nat} (hxK : x < K) (hx : (inr c 0 9 && (itB (rn N X) (rf N X) (x + 1)).testBit c.toNat) = true) (hno : ∀ y, y < x → (inr c 0 9 && (itB (rn N X) (rf N X) (y + 1)).testBit c.toNat) = false) : rnd N X c = (x : Int) + 1 := by
  rw [has_it] at hx
  have hno' : ∀ y, y < x → (itS N X (y + 1)).contains c = false := fun y hy => by rw [← has_it]; exact hno y hy
  unfold rnd
  by_cases hg : gB N X = true
  · rw [if_pos hg]
    obtain ⟨n, rfl, hn, hp, _⟩ := gB_ok hg
    have h1 := itS_many n X K (fun j hj e => hgrow j hj ((itB_eq n X _ _).2 e))
    have h2 := it_len (n := n) (X := X) K
    rw [rndT_hit hx hno' _ 0 (by omega) (by rw [Int.toNat_natCast]; omega)]
    push_cast
    rfl
  · rw [it_none (by simpa using hg)] at hx
    simp at hx
omit hgrow in
theorem rnd_miss (hno : ∀ y, y < K → (inr c 0 9 && (itB (rn N X) (rf N X) (y + 1)).testBit c.toNat) = false) : rnd N X c = -1 := by
  unfold rnd
  split
  · refine rndT_miss (fun y => ?_) _ _
    rw [← has_it]
    by_cases h : y < K
    · exact hno y h
    · have hst : itB (rn N X) (rf N X) (y + 1) = itB (rn N X) (rf N X) K := by
        rw [itB_eq]
        have := it_stay ((itB_eq N X _ _).1 hK) (y + 1 - K)
        rw [show K + (y + 1 - K) = y + 1 by omega] at this
        exact this
      rw [hst]
      cases K with
      | zero => simp [itB]
      | succ K => exact hno K (by omega)
  · rfl
end
end Go.Proofs.Ytncndlojceiejaa
