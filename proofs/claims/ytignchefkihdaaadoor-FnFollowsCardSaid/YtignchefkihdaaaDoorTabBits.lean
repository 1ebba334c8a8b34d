/- Sums of chapter 11 as the code keeps them: the rows with which a formula is true as the bits of one number of 64. No conditions. -/
import Derived.Test.YtignchefkihdaaaDoorTabMath
import Derived.Test.YtignchefkihdaaaDoorPop64
import Derived.Lib.TrailingZeros
namespace Go.Proofs.YtignchefkihdaaaDoor
theorem tb_ext {p q : Nat → Bool} {n : Nat} : tbN p n = tbN q n ↔ ∀ m, m < n → p m = q m := by
  constructor
  · intro h m hm
    have := congrArg (fun x => x.testBit m) h
    simpa [tbN_bit, hm] using this
  · intro h
    apply Nat.eq_of_testBit_eq
    intro i
    rw [tbN_bit, tbN_bit]
    by_cases hi : i < n
    · rw [h i hi]
    · simp [hi]
theorem tb_zero {p : Nat → Bool} {n : Nat} : tbN p n = 0 ↔ ∀ m, m < n → p m = false := by
  have e : (0 : Nat) = tbN (fun _ => false) n := by
    symm
    apply Nat.eq_of_testBit_eq
    intro i
    rw [tbN_bit]
    simp
  rw [e, tb_ext]
theorem tb_every : tbN (fun _ => true) 64 = 18446744073709551615 := by decide +kernel
theorem tb_full {p : Nat → Bool} : tbN p 64 = 18446744073709551615 ↔ ∀ m, m < 64 → p m = true := by
  rw [← tb_every, tb_ext]
theorem tb_and (p q : Nat → Bool) (n : Nat) : tbN p n &&& tbN q n = tbN (fun m => p m && q m) n := by
  apply Nat.eq_of_testBit_eq
  intro i
  rw [Nat.testBit_and, tbN_bit, tbN_bit, tbN_bit]
  cases decide (i < n) <;> simp
theorem tb_less (p q : Nat → Bool) : tbN p 64 &&& (18446744073709551615 - tbN q 64) = tbN (fun m => p m && !(q m)) 64 := by
  apply Nat.eq_of_testBit_eq
  intro i
  have hlt := tbN_lt q 64
  rw [Nat.testBit_and, tbN_bit, tbN_bit, show 18446744073709551615 - tbN q 64 = 2 ^ 64 - (tbN q 64 + 1) by omega, Nat.testBit_two_pow_sub_succ hlt, tbN_bit]
  cases decide (i < 64) <;> simp
/-- The table of a formula; nothing is set for what is none. -/
def tabN (f : List Int) : Nat := tbN (valR f) 64
def shrN (X : List (List Int)) : Nat := tbN (allR X) 64
theorem valR_no {f : List Int} (h : isF f = false) (m : Nat) : valR f m = false := by unfold valR valB; rw [h]; rfl
theorem tabN_no {f : List Int} (h : isF f = false) : tabN f = 0 := tb_zero.2 fun m _ => valR_no h m
theorem tabN_lt (f : List Int) : tabN f < 18446744073709551616 := tbN_lt _ 64
theorem shrN_lt (X : List (List Int)) : shrN X < 18446744073709551616 := tbN_lt _ 64
theorem tabN_always (f : List Int) : decide (tabN f = 18446744073709551615) = alwR f := by
  unfold alwR
  rw [Bool.eq_iff_iff, decide_eq_true_iff, beq_iff_eq]
  unfold tabN
  rw [tb_full, cntR_all]
theorem shrN_nil : shrN [] = 18446744073709551615 := tb_every
theorem shrN_snoc (X : List (List Int)) (f : List Int) : shrN (X ++ [f]) = shrN X &&& tabN f := by
  unfold shrN tabN
  rw [tb_and, tb_ext]
  intro m _
  simp [allR]
theorem shrN_can {X : List (List Int)} (h : okR X = true) : decide (shrN X ≠ 0) = canR X := by
  unfold canR
  rw [h, Bool.true_and, Bool.eq_iff_iff, decide_eq_true_iff, List.any_eq_true]
  unfold shrN
  rw [Ne, tb_zero]
  constructor
  · intro h
    apply Classical.byContradiction
    intro hn
    apply h
    intro m hm
    cases hv : allR X m with
    | false => rfl
    | true => exact absurd ⟨m, List.mem_range.2 hm, hv⟩ hn
  · rintro ⟨m, hm, hv⟩ h
    rw [h m (List.mem_range.1 hm)] at hv
    cases hv
theorem canR_no {X : List (List Int)} (h : okR X = false) : canR X = false := by unfold canR; rw [h]; rfl
theorem shrN_fol {X : List (List Int)} {f : List Int} (h : okR X = true) (hf : isF f = true) : decide (shrN X &&& (18446744073709551615 - tabN f) = 0) = folR X f := by
  unfold folR
  rw [h, hf, Bool.true_and, Bool.true_and, Bool.eq_iff_iff, decide_eq_true_iff, List.all_eq_true]
  unfold shrN tabN
  rw [tb_less, tb_zero]
  constructor
  · intro h m hm
    have := h m (List.mem_range.1 hm)
    cases ha : allR X m <;> cases hv : valR f m <;> simp_all
  · intro h m hm
    have := h m (List.mem_range.2 hm)
    cases ha : allR X m <;> cases hv : valR f m <;> simp_all
theorem folR_off {X : List (List Int)} {f : List Int} (h : (okR X && isF f) = false) : folR X f = false := by
  unfold folR
  rw [h]
  rfl
theorem tabN_alike {a b : List Int} (ha : isF a = true) (hb : isF b = true) : decide (tabN a = tabN b) = alkR a b := by
  unfold alkR
  rw [ha, hb, Bool.true_and, Bool.true_and, Bool.eq_iff_iff, decide_eq_true_iff, List.all_eq_true]
  unfold tabN
  rw [tb_ext]
  constructor
  · intro h m hm; rw [h m (List.mem_range.1 hm)]; simp
  · intro h m hm; simpa using h m (List.mem_range.2 hm)
theorem alkR_off {a b : List Int} (h : (isF a && isF b) = false) : alkR a b = false := by unfold alkR; rw [h]; rfl
theorem tabN_cnt (f : List Int) : cnt 64 (tabN f) = cntR f := cnt_tbN _ 64
theorem tabN_bit (f : List Int) {m : Nat} (hm : m < 64) : (tabN f).testBit m = valR f m := by
  unfold tabN
  rw [tbN_bit, decide_eq_true hm, Bool.true_and]
theorem fst_none {f : List Int} (h : tabN f = 0) : fstR f = -1 := by
  unfold fstR
  rw [List.find?_eq_none.2 fun m hm => by
    have := tb_zero.1 h m (List.mem_range.1 hm)
    rw [this]; simp]
theorem fst_some {f : List Int} (h : tabN f ≠ 0) : fstR f = (Lib.ctz 64 (tabN f) : Nat) := by
  obtain ⟨m, hm, hk⟩ := Lib.ctzFrom_spec 64 (tabN f) (by omega) (tabN_lt f)
  have e : Lib.ctz 64 (tabN f) = Lib.ctzFrom 64 (tabN f) := by simp [Lib.ctz, h]
  obtain ⟨h1, h2⟩ := tb_ctz hm
  rw [e]
  have hf : (List.range 64).find? (valR f) = some (Lib.ctzFrom 64 (tabN f)) := by
    rw [List.find?_eq_some_iff_getElem]
    refine ⟨by rw [← tabN_bit f hk]; exact h1, Lib.ctzFrom 64 (tabN f), by simpa using hk, by simp, fun j hj => ?_⟩
    have hj2 := h2 j hj
    rw [tabN_bit f (by omega)] at hj2
    simp [hj2]
  unfold fstR
  rw [hf]
end Go.Proofs.YtignchefkihdaaaDoor
