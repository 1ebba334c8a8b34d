/- Contracts of the functions that draw numbers from the code of a law: each returns a number of 64 bits and writes to nothing but the cursor and new memory. Condition: as for the cursor's own functions. -/
import Derived.Test.YtmjnlhejdjkoaaaDraw
namespace Go.Proofs.Ytmjnlhejdjkoaaa
open Go.ChangeShapes Go.WideShapes Go.ChangeAt Go.RowKit
def In64 (x : Int) : Prop := -9223372036854775808 ≤ x ∧ x ≤ 9223372036854775807
def InMax (x : Int) : Prop := 0 ≤ x ∧ x ≤ 1000000000000
theorem only_ofalloc {w w' : World} {o : Obj} {r : Option Nat} (h : (w.alloc o).grownBy w' r) : w.grownBy w' r := only_trans (only_alloc (only_refl w r) o) h
theorem num_any {w : World} {B : Nat} {A : Option Addr} {n c : Nat} (h : Cur w B A n c) :
    Calls Try.prog 50 #[.pointer (some ⟨B, 0, none⟩)] w (Drawn InMax B A n c w) := by
  go_enter Try.func50, Try.ntmps50
  go_wp2_with fail
  go_at_call 43
  refine (below_any h _ (by omega)).mono ?_
  rintro e w1 ⟨x, ⟨hx0, hx1⟩, rfl, hg, hc⟩
  have hne : B ≠ w1.heap.size := by have := hc.lt; omega
  have hrow := introw_alloc InMax w1 [0, 1, 127, 128, 2147483646, 2147483647, 1000000000000] 3 (by simp [InMax])
  have HR := Lib.hid hrow
  clear hrow
  by_cases h0 : x = 0
  · subst h0
    go_wp2_with fail
    go_at_call 43
    refine (below_any hc _ (by omega)).mono ?_
    rintro e w2 ⟨y, ⟨hy0, hy1⟩, rfl, hg2, hc2⟩
    go_wp2
    go_ret
    exact ⟨_, ⟨hy0, by omega⟩, rfl, only_trans hg hg2, hc2⟩
  · have d0 : (x == 0) = false := by simpa using h0
    by_cases h1 : x = 1
    · subst h1
      go_wp2_with fail
      go_at_call 51
      refine (int_any InMax (hc.alloc _) _ 7 (Ne.symm hne) (by omega) (by omega) HR.out).mono ?_
      rintro e w2 ⟨y, hy, rfl, hg2, hc2⟩
      go_wp2
      go_ret
      exact ⟨_, hy, rfl, only_trans hg (only_ofalloc hg2), hc2⟩
    · have d1 : (x == 1) = false := by simpa using h1
      by_cases h2 : x = 2
      · subst h2
        go_wp2_with fail
        go_at_call 43
        refine (below_any hc _ (by omega)).mono ?_
        rintro e w2 ⟨y, ⟨hy0, hy1⟩, rfl, hg2, hc2⟩
        go_wp2_with fail
        go_at_call 43
        refine (below_any hc2 _ (by omega)).mono ?_
        rintro e w3 ⟨z, ⟨hz0, hz1⟩, rfl, hg3, hc3⟩
        have hm0 : 0 ≤ y * z := Int.mul_nonneg hy0 hz0
        have hm1 : y * z ≤ 1000000000000 := by
          have := Int.mul_le_mul (show y ≤ 1000000 by omega) (show z ≤ 1000000 by omega) hz0 (by omega)
          omega
        go_wp2
        go_ret
        exact ⟨_, ⟨hm0, hm1⟩, rfl, only_trans hg (only_trans hg2 hg3), hc3⟩
      · have d2 : (x == 2) = false := by simpa using h2
        go_wp2_with fail
        go_at_call 43
        refine (below_any hc _ (by omega)).mono ?_
        rintro e w2 ⟨y, ⟨hy0, hy1⟩, rfl, hg2, hc2⟩
        go_wp2
        go_ret
        exact ⟨_, ⟨hy0, by omega⟩, rfl, only_trans hg hg2, hc2⟩
theorem odd_any {w : World} {B : Nat} {A : Option Addr} {n c : Nat} (h : Cur w B A n c) :
    Calls Try.prog 58 #[.pointer (some ⟨B, 0, none⟩)] w (Drawn In64 B A n c w) := by
  have hne : B ≠ w.heap.size := by have := h.lt; omega
  have hrow := introw_alloc In64 w [-1, 0, 1, 2, 255, 256, 65535, 2147483647, 2147483648, 4294967295, 4294967296, -2147483648, 9223372036854775807, -9223372036854775808] 3 (by simp [In64])
  have HR := Lib.hid hrow
  clear hrow
  go_enter Try.func58, Try.ntmps58
  go_wp2_with fail
  go_at_call 51
  refine (int_any In64 (h.alloc _) _ 14 (Ne.symm hne) (by omega) (by omega) HR.out).mono ?_
  rintro e w2 ⟨y, hy, rfl, hg2, hc2⟩
  go_wp2
  go_ret
  exact ⟨_, hy, rfl, only_ofalloc hg2, hc2⟩
theorem raw_any {w : World} {B : Nat} {A : Option Addr} {n c : Nat} (h : Cur w B A n c) :
    Calls Try.prog 56 #[.pointer (some ⟨B, 0, none⟩)] w (Drawn In64 B A n c w) := by
  go_enter Try.func56, Try.ntmps56
  go_wp2_with fail
  go_at_call 49
  refine (once_any h _ (by omega)).mono ?_
  rintro e w1 ⟨x, rfl, hg, hc⟩
  have hne : B ≠ w1.heap.size := by have := hc.lt; omega
  have hrow := introw_alloc In64 w1 [-1, 1000000000000, 1000000000001] 3 (by simp [In64])
  have HR := Lib.hid hrow
  clear hrow
  cases x
  · go_wp2_with fail
    go_at_call 51
    refine (int_any In64 (hc.alloc _) _ 3 (Ne.symm hne) (by omega) (by omega) HR.out).mono ?_
    rintro e w2 ⟨y, hy, rfl, hg2, hc2⟩
    go_wp2
    go_ret
    exact ⟨_, hy, rfl, only_trans hg (only_ofalloc hg2), hc2⟩
  · go_wp2_with fail
    go_at_call 58
    refine (odd_any hc).mono ?_
    rintro e w2 ⟨y, hy, rfl, hg2, hc2⟩
    go_wp2
    go_ret
    exact ⟨_, hy, rfl, only_trans hg hg2, hc2⟩
theorem one_any {w : World} {B : Nat} {A : Option Addr} {n c : Nat} (h : Cur w B A n c) :
    Calls Try.prog 44 #[.pointer (some ⟨B, 0, none⟩)] w (Drawn In64 B A n c w) := by
  go_enter Try.func44, Try.ntmps44
  go_wp2_with fail
  go_at_call 49
  refine (once_any h _ (by omega)).mono ?_
  rintro e w1 ⟨x, rfl, hg, hc⟩
  cases x
  · go_wp2_with fail
    go_at_call 50
    refine (num_any hc).mono ?_
    rintro e w2 ⟨y, hy, rfl, hg2, hc2⟩
    go_wp2
    go_ret
    exact ⟨_, ⟨by have := hy.1; omega, by have := hy.2; omega⟩, rfl, only_trans hg hg2, hc2⟩
  · go_wp2_with fail
    go_at_call 56
    refine (raw_any hc).mono ?_
    rintro e w2 ⟨y, hy, rfl, hg2, hc2⟩
    go_wp2
    go_ret
    exact ⟨_, hy, rfl, only_trans hg hg2, hc2⟩
end Go.Proofs.Ytmjnlhejdjkoaaa
