/- Contract of the model of HitBy. No conditions but that the slices have at most 2^40 elements. -/
import Derived.Test.YthkigilegnjglaaWhoM2
namespace Go.Proofs.Ythkigilegnjglaa
open Go.ChangeShapes Go.WideShapes Go.ChangeAt Go.RowKit
set_option maxRecDepth 100000
theorem l4Has_any {w : World} {A : Option Addr} {n c : Nat} {a : Int} {S : List Int} (hl : Hid (S.length = n)) (hn : n ≤ 1099511627776) (hr : Rd w w.heap.size A (ivs S)) :
    Calls Try.prog 97 #[.slice A n c, .int .i64 a] w (fun e w' => e = .returned (.bool (S.contains a)) ∧ w = w') := by
  go_enter Try.func97, Try.ntmps97
  go_wp2_with fail
  go_loopw [5] (fun i wr => ∃ k : Nat, k ≤ n ∧ i = .int .i64 k ∧ wr = w ∧ Hid ((S.take k).contains a = false)) (fun i _ => n - (intOf i).toNat)
  case atStart => exact ⟨0, Nat.zero_le _, rfl, rfl, Lib.hid rfl⟩
  case round =>
    obtain ⟨k, hk, rfl, rfl, hno⟩ := hrel
    by_cases hlt : k < n
    · have hkz : k < S.length := by rw [hl.out]; exact hlt
      obtain ⟨ad, rfl, hab, hc⟩ := ivs_at hr hkz
      have i0 : (0 : Int) ≤ (k : Int) := by omega
      by_cases h1 : S[k] = a
      · have HY := Lib.hid (show S.contains a = true by rw [List.contains_iff_mem]; exact h1 ▸ List.getElem_mem hkz)
        rw [h1] at hc
        clear h1
        go_wp2_with fail
        go_ret
        exact ⟨ret_b HY.out.symm, rfl⟩
      · have HN := Lib.hid (show (S.take (k + 1)).contains a = false by
          rw [List.take_succ_eq_append_getElem hkz]
          have := hno.out
          simp only [List.contains_eq_mem, decide_eq_false_iff_not, List.mem_append, List.mem_singleton, not_or] at this ⊢
          exact ⟨this, fun e => h1 e.symm⟩)
        have h1' : (S[k] == a) = false := by simpa using h1
        obtain ⟨z, hz⟩ : ∃ z, z = S[k] := ⟨_, rfl⟩
        rw [← hz] at hc h1 h1'
        clear hz
        go_wp2_with fail
        go_roundw
        case rel => exact ⟨k + 1, by omega, by go_num, trivial, HN⟩
        case measure => simp [intOf]; omega
    · have e : k = n := by omega
      subst e
      have HF := Lib.hid (show S.contains a = false by have := hno.out; rwa [List.take_of_length_le (by rw [hl.out]; exact Nat.le_refl _)] at this)
      go_wp2_with fail
      go_ret
      exact ⟨ret_b HF.out.symm, rfl⟩
theorem hitL_yes {X : List (List Int)} {S : List Int} {k : Nat} (h : hitP X S k = true) : hitL X S (k + 1) = hitL X S k ++ [(k : Int)] := by simp [hitL, List.range_succ, h]
theorem hitL_no {X : List (List Int)} {S : List Int} {k : Nat} (h : hitP X S k = false) : hitL X S (k + 1) = hitL X S k := by simp [hitL, List.range_succ, h]
theorem hitL_len (X : List (List Int)) (S : List Int) (k : Nat) : (hitL X S k).length ≤ k := by
  unfold hitL
  rw [List.length_map]
  exact Nat.le_trans (List.length_filter_le _ _) (by simp)
end Go.Proofs.Ythkigilegnjglaa
