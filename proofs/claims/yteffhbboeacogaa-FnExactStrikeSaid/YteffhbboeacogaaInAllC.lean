/- Contracts of slices.Index and slices.Contains of integers, and of the code's isInEach. Condition: the slices have at most 2^40 elements. -/
import Derived.Test.YteffhbboeacogaaGrow
import Derived.Test.YteffhbboeacogaaIntSS
import Derived.Test.YteffhbboeacogaaBits
namespace Go.Proofs.Yteffhbboeacogaa
open Go.ChangeShapes Go.WideShapes Go.ChangeAt Go.RowKit
set_option maxRecDepth 100000
theorem index_any {w : World} {B : Nat} {A : Option Addr} {n c : Nat} {a : Int} {S : List Int} (hl : Hid (S.length = n)) (hn : n ≤ 1099511627776) (hr : Rd w B A (ivs S)) :
    Calls Try.prog 70 #[.slice A n c, .int .i64 a] w (fun e w' => (∃ r, e = .returned (.int .i64 r) ∧ decide (0 ≤ r) = S.contains a) ∧ w = w') := by
  go_enter Try.func70, Try.ntmps70
  go_wp2_with fail
  go_loopw [8] (fun i wr => ∃ k : Nat, k ≤ n ∧ i = .int .i64 k ∧ wr = w ∧ Hid ((S.take k).contains a = false)) (fun i _ => n - (intOf i).toNat)
  case atStart => exact ⟨0, Nat.zero_le _, rfl, rfl, Lib.hid rfl⟩
  case round =>
    obtain ⟨k, hk, rfl, rfl, hno⟩ := hrel
    by_cases hlt : k < n
    · have hkz : k < S.length := by rw [hl.out]; exact hlt
      obtain ⟨ad, rfl, hab, hc⟩ := ivs_at hr hkz
      have i0 : (0 : Int) ≤ (k : Int) := by omega
      by_cases h1 : S[k] = a
      · have HY := Lib.hid (show S.contains a = true by rw [List.contains_iff_mem]; exact h1 ▸ List.getElem_mem hkz)
        rw [h1] at hc
        clear h1
        go_wp2_with fail
        go_ret
        exact ⟨⟨k, rfl, by rw [HY.out]; exact decide_eq_true i0⟩, rfl⟩
      · have HN := Lib.hid (show (S.take (k + 1)).contains a = false by
          rw [List.take_succ_eq_append_getElem hkz]
          have := hno.out
          simp only [List.contains_eq_mem, decide_eq_false_iff_not, List.mem_append, List.mem_singleton, not_or] at this ⊢
          exact ⟨this, fun e => h1 e.symm⟩)
        obtain ⟨z, hz⟩ : ∃ z, z = S[k] := ⟨_, rfl⟩
        rw [← hz] at hc h1
        have h1' : (a == z) = false := by simpa using (show ¬ a = z from fun e => h1 e.symm)
        clear hz
        go_wp2_with fail
        go_roundw
        case rel => exact ⟨k + 1, by omega, by go_num, trivial, HN⟩
        case measure => simp [intOf]; omega
    · have e : k = n := by omega
      subst e
      have HF := Lib.hid (show S.contains a = false by have := hno.out; rwa [List.take_of_length_le (by rw [hl.out]; exact Nat.le_refl _)] at this)
      go_wp2_with fail
      go_ret
      exact ⟨⟨-1, rfl, by rw [HF.out]; rfl⟩, rfl⟩
theorem contains_any' {w : World} {B : Nat} {A : Option Addr} {n c : Nat} {a : Int} {S : List Int} (hl : Hid (S.length = n)) (hn : n ≤ 1099511627776) (hr : Rd w B A (ivs S)) :
    Calls Try.prog 76 #[.slice A n c, .int .i64 a] w (fun e w' => e = .returned (.bool (S.contains a)) ∧ w = w') := by
  go_enter Try.func76, Try.ntmps76
  go_wp2_with fail
  refine (index_any hl hn hr).mono ?_
  rintro e w1 ⟨⟨r, rfl, hr2⟩, rfl⟩
  have HR := Lib.hid hr2
  clear hr2
  go_wp2_with fail
  go_ret
  exact ⟨ret_b HR.out, rfl⟩
/-- Whether each list has a number. -/
def eachB (X : List (List Int)) (a : Int) : Bool := X.all fun t => t.contains a
end Go.Proofs.Yteffhbboeacogaa
