/- Contracts of NextAfter, the model's and the code's (chapter 15), and of the models of CountOf and IsFairOrder. Condition: the slices have at most 2^40 elements. -/
import Derived.Test.YteffhbboeacogaaGrow
import Derived.Test.YteffhbboeacogaaOrdMath
import Derived.Test.YteffhbboeacogaaBits
namespace Go.Proofs.Yteffhbboeacogaa
open Go.ChangeShapes Go.WideShapes Go.ChangeAt Go.RowKit
set_option maxRecDepth 100000
theorem l4h_any {w : World} {A : Option Addr} {n c : Nat} {a : Int} {S : List Int} (hl : Hid (S.length = n)) (hn : n ≤ 1099511627776) (hr : Rd w w.heap.size A (ivs S)) :
    Calls Try.prog 67 #[.slice A n c, .int .i64 a] w (fun e w' => e = .returned (.bool (S.contains a)) ∧ w = w') := by
  go_enter Try.func67, Try.ntmps67
  go_wp2_with fail
  go_loopw [5] (fun i wr => ∃ k : Nat, k ≤ n ∧ i = .int .i64 k ∧ wr = w ∧ Hid ((S.take k).contains a = false)) (fun i _ => n - (intOf i).toNat)
  case atStart => exact ⟨0, Nat.zero_le _, rfl, rfl, Lib.hid rfl⟩
  case round =>
    obtain ⟨k, hk, rfl, rfl, hno⟩ := hrel
    by_cases hlt : k < n
    · have hkz : k < S.length := by rw [hl.out]; exact hlt
      obtain ⟨ad, rfl, hab, hc⟩ := ivs_at hr hkz
      have i0 : (0 : Int) ≤ (k : Int) := by omega
      by_cases h1 : S[k] = a
      · have HY := Lib.hid (show S.contains a = true by rw [List.contains_iff_mem]; exact h1 ▸ List.getElem_mem hkz)
        rw [h1] at hc
        clear h1
        go_wp2_with fail
        go_ret
        exact ⟨ret_b HY.out.symm, rfl⟩
      · have HN := Lib.hid (show (S.take (k + 1)).contains a = false by
          rw [List.take_succ_eq_append_getElem hkz]
          have := hno.out
          simp only [List.contains_eq_mem, decide_eq_false_iff_not, List.mem_append, List.mem_singleton, not_or] at this ⊢
          exact ⟨this, fun e => h1 e.symm⟩)
        obtain ⟨z, hz⟩ : ∃ z, z = S[k] := ⟨_, rfl⟩
        rw [← hz] at hc h1
        have h1' : (z == a) = false := by simpa using h1
        clear hz
        go_wp2_with fail
        go_roundw
        case rel => exact ⟨k + 1, by omega, by go_num, trivial, HN⟩
        case measure => simp [intOf]; omega
    · have e : k = n := by omega
      subst e
      have HF := Lib.hid (show S.contains a = false by have := hno.out; rwa [List.take_of_length_le (by rw [hl.out]; exact Nat.le_refl _)] at this)
      go_wp2_with fail
      go_ret
      exact ⟨ret_b HF.out.symm, rfl⟩
/-- Where a stands first: no element before k is a. -/
def NoB (o : List Int) (a : Int) (k : Nat) : Prop := ∀ j, j < k → o.getD j 0 ≠ a
theorem NoB.succ {o : List Int} {a : Int} {k : Nat} (h : NoB o a k) (h2 : o.getD k 0 ≠ a) : NoB o a (k + 1) := fun j hj => by
  by_cases e : j = k
  · rw [e]; exact h2
  · exact h j (by omega)
theorem getD_z {o : List Int} {k : Nat} (h : k < o.length) : o.getD k 0 = o[k] := by simp [List.getD, h]
theorem nex_none {o : List Int} {a : Int} {k : Nat} (h : NoB o a k) (hk : o.length ≤ k + 1) : nexN o a = 0 := by
  have : nexI o a = none := by
    unfold nexI
    rw [List.find?_eq_none]
    intro j hj
    have := h j (by have := List.mem_range.1 hj; omega)
    simpa using this
  unfold nexN
  rw [this]
theorem nex_some {o : List Int} {a : Int} {k j : Nat} (h : NoB o a k) (hj : j = k + 1) (hk : j < o.length) (he : o.getD k 0 = a) : nexN o a = o[j] := by
  subst hj
  have : nexI o a = some k := by
    unfold nexI
    rw [List.find?_range_eq_some]
    exact ⟨by simpa using he, List.mem_range.2 (by omega), fun j hj => by simpa using h j hj⟩
  unfold nexN
  rw [this]
  exact getD_z hk
theorem idx_any {w : World} {B : Nat} {A : Option Addr} {n c : Nat} {a : Int} {S : List Int} (hl : Hid (S.length = n)) (hn : n ≤ 1099511627776) (hr : Rd w B A (ivs S)) :
    Calls Try.prog 70 #[.slice A n c, .int .i64 a] w (fun e w' => (∃ r : Int, e = .returned (.int .i64 r) ∧ (r = -1 ∧ NoB S a n ∨ ∃ k : Nat, r = (k : Int) ∧ k < n ∧ NoB S a k ∧ S.getD k 0 = a)) ∧ w = w') := by
  go_enter Try.func70, Try.ntmps70
  go_wp2_with fail
  go_loopw [8] (fun i wr => ∃ k : Nat, k ≤ n ∧ i = .int .i64 k ∧ wr = w ∧ Hid (NoB S a k)) (fun i _ => n - (intOf i).toNat)
  case atStart => exact ⟨0, Nat.zero_le _, rfl, rfl, Lib.hid (fun j hj => absurd hj (by omega))⟩
  case round =>
    obtain ⟨k, hk, rfl, rfl, hno⟩ := hrel
    by_cases hlt : k < n
    · have hkz : k < S.length := by rw [hl.out]; exact hlt
      obtain ⟨ad, rfl, hab, hc⟩ := ivs_at hr hkz
      have HG := Lib.hid (getD_z hkz)
      have i0 : (0 : Int) ≤ (k : Int) := by omega
      obtain ⟨z, hz⟩ : ∃ z, z = S[k] := ⟨_, rfl⟩
      rw [← hz] at hc HG
      clear hz
      by_cases h1 : z = a
      · have HV := Lib.hid (HG.out.trans h1)
        subst h1
        go_wp2_with fail
        go_ret
        exact ⟨⟨k, rfl, .inr ⟨k, rfl, hlt, hno.out, HV.out⟩⟩, rfl⟩
      · have HN := Lib.hid (hno.out.succ (by rw [HG.out]; exact h1))
        have h1' : (a == z) = false := by simpa using (show ¬ a = z from fun e => h1 e.symm)
        go_wp2_with fail
        go_roundw
        case rel => exact ⟨k + 1, by omega, by go_num, trivial, HN⟩
        case measure => simp [intOf]; omega
    · have e : k = n := by omega
      subst e
      go_wp2_with fail
      go_ret
      exact ⟨⟨-1, rfl, .inl ⟨rfl, hno.out⟩⟩, rfl⟩
end Go.Proofs.Yteffhbboeacogaa
