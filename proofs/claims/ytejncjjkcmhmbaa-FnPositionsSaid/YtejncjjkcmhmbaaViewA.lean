/- Contracts of the models' helpers of chapter 7: l7Before, l7Part. Condition: the slices have at most 2^40 elements. -/
import Derived.Test.YtejncjjkcmhmbaaMg18
import Derived.Test.YtejncjjkcmhmbaaMg21
import Derived.Test.YtejncjjkcmhmbaaViewMath
namespace Go.Proofs.Ytejncjjkcmhmbaa
open Go.ChangeShapes Go.WideShapes Go.ChangeAt Go.RowKit
set_option maxRecDepth 100000
/-- Whether the first list's members are all in the second one. -/
def subB (S T : List Int) : Bool := S.all fun z => T.contains z
theorem bfr_eq {x y : List Int} : ∀ {k : Nat}, x.take k = y.take k → k ≤ x.length → k ≤ y.length → bfr x y = bfr (x.drop k) (y.drop k)
  | 0, _, _, _ => rfl
  | k + 1, h, hx, hy => by
    cases x with
    | nil => simp at hx
    | cons a x =>
      cases y with
      | nil => simp at hy
      | cons b y =>
        simp only [List.take_succ_cons, List.cons.injEq] at h
        obtain ⟨rfl, h⟩ := h
        have ih := bfr_eq (x := x) (y := y) (k := k) h (by simpa using hx) (by simpa using hy)
        rw [List.drop_succ_cons, List.drop_succ_cons, ← ih]
        show (if a = a then bfr x y else decide (a < a)) = _
        rw [if_pos rfl]
theorem bfr_diff {x y : List Int} {k : Nat} (h : x.take k = y.take k) (hx : k < x.length) (hy : k < y.length) (hd : ¬ x[k] = y[k]) : bfr x y = decide (x[k] < y[k]) := by
  rw [bfr_eq h (by omega) (by omega), List.drop_eq_getElem_cons hx, List.drop_eq_getElem_cons hy]
  show (if x[k] = y[k] then _ else _) = _
  rw [if_neg hd]
theorem bfr_end {x y : List Int} {k : Nat} (h : x.take k = y.take k) (hx : k ≤ x.length) (hy : k ≤ y.length) (he : k = x.length ∨ k = y.length) : bfr x y = decide (x.length < y.length) := by
  rw [bfr_eq h hx hy]
  by_cases h1 : k = x.length
  · by_cases h2 : k = y.length
    · rw [List.drop_of_length_le (by omega), List.drop_of_length_le (by omega)]
      symm
      exact decide_eq_false (by omega)
    · rw [List.drop_of_length_le (by omega), List.drop_eq_getElem_cons (show k < y.length by omega)]
      symm
      exact decide_eq_true (by omega)
  · have h2 : k = y.length := by omega
    rw [List.drop_of_length_le (show y.length ≤ k by omega), List.drop_eq_getElem_cons (show k < x.length by omega)]
    symm
    exact decide_eq_false (by omega)
set_option maxHeartbeats 1600000 in
theorem l7Before_q {w : World} {A A' : Option Addr} {n c n' c' : Nat} {S T : List Int} (hl : Hid (S.length = n)) (hn : n ≤ 1099511627776) (hl' : Hid (T.length = n')) (_hn' : n' ≤ 1099511627776) (hr : Rd w w.heap.size A (ivs S)) (hr' : Rd w w.heap.size A' (ivs T)) :
    Calls Try.prog 87 #[.slice A n c, .slice A' n' c'] w (TellsQ (bfr S T) w) := by
  go_enter Try.func87, Try.ntmps87
  go_wp2_with fail
  go_loopw [5] (fun i wr => ∃ k q : Nat, (k ≤ n ∧ k ≤ n') ∧ i = .int .i64 k ∧ wr = w.drewN q ∧ S.take k = T.take k) (fun i _ => n - (intOf i).toNat)
  case atStart => exact ⟨0, 0, ⟨Nat.zero_le _, Nat.zero_le _⟩, rfl, rfl, rfl⟩
  case round =>
    obtain ⟨k, q, ⟨hk, hk'⟩, rfl, rfl, heq⟩ := hrel
    have HE := Lib.hid heq
    clear heq
    by_cases hlt : k < n ∧ k < n'
    · obtain ⟨hlt, hlt'⟩ := hlt
      have hkz : k < S.length := by rw [hl.out]; exact hlt
      have hky : k < T.length := by rw [hl'.out]; exact hlt'
      obtain ⟨ad, rfl, hab, hc⟩ := ivs_at hr hkz
      obtain ⟨ad', rfl, hab', hc'⟩ := ivs_at hr' hky
      have i0 : (0 : Int) ≤ (k : Int) := by omega
      have i1 : (k : Int) < (n : Int) := by omega
      have i2 : (k : Int) < (n' : Int) := by omega
      by_cases hv : S[k] = T[k]
      · have HV := Lib.hid hv
        rw [hv] at hc
        clear hv
        go_wp2_with fail
        go_quiet (fail)
        go_wp2_with fail
        go_roundw
        case rel => exact ⟨k + 1, _, ⟨by omega, by omega⟩, by go_num, rfl, by rw [List.take_succ_eq_append_getElem hkz, List.take_succ_eq_append_getElem hky, HE.out, HV.out]⟩
        case measure => simp [intOf]; omega
      · have HD := Lib.hid (bfr_diff HE.out hkz hky hv)
        have hne : (S[k] == T[k]) = false := by simpa using hv
        have hne' : (S[k] != T[k]) = true := by simpa using hv
        obtain ⟨x, hx⟩ : ∃ x, x = S[k] := ⟨_, rfl⟩
        obtain ⟨y, hy⟩ : ∃ y, y = T[k] := ⟨_, rfl⟩
        rw [← hx] at hc HD hne hne'
        rw [← hy] at hc' HD hne hne'
        clear hv hx hy
        go_wp2_with fail
        go_quiet (fail)
        go_wp2_with fail
        go_quiet (fail)
        go_wp2_with fail
        go_ret
        exact ⟨ret_b HD.out.symm, _, by simp only [World.drewN_drewN]; rfl⟩
    · have HL := Lib.hid (show bfr S T = decide (n < n') by
        have h1 := bfr_end HE.out (by rw [hl.out]; omega) (by rw [hl'.out]; omega) (by rw [hl.out, hl'.out]; omega)
        rw [h1, hl.out, hl'.out])
      have hcase : (k : Int) < (n : Int) → ¬ (k : Int) < (n' : Int) := by omega
      by_cases h3 : (k : Int) < (n : Int)
      all_goals
        try have h4 := hcase h3
        clear hcase hlt
        go_wp2_with fail
        go_ret
        exact ⟨ret_b HL.out.symm, q, rfl⟩
end Go.Proofs.Ytejncjjkcmhmbaa
