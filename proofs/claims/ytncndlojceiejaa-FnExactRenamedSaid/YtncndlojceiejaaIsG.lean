/- Contracts of slices.Compare on slices of integers of one length, and of IsGraph's code. No conditions but that the slices have at most 2^40 elements. -/
import Derived.Test.YtncndlojceiejaaMg4
namespace Go.Proofs.Ytncndlojceiejaa
open Go.ChangeShapes Go.WideShapes Go.ChangeAt Go.RowKit
def cmp1 (a b : Int) : Int := if a < b then -1 else if b < a then 1 else 0
theorem cmpNaN_any (a : Int) (w : World) : Calls Try.prog 74 #[.int .i64 a] w (fun e w' => e = .returned (.bool false) ∧ w = w') := by
  go_enter Try.func74, Try.ntmps74
  go_wp2
  go_ret
  exact ⟨ret_b (by simp), rfl⟩
theorem cmpInt_any (a b : Int) (w : World) : Calls Try.prog 66 #[.int .i64 a, .int .i64 b] w (fun e w' => e = .returned (.int .i64 (cmp1 a b)) ∧ w = w') := by
  by_cases h1 : a < b
  · have H := Lib.hid (show cmp1 a b = -1 by unfold cmp1; rw [if_pos h1])
    go_enter Try.func66, Try.ntmps66
    go_wp2_with (go_at_call 74; refine (cmpNaN_any _ _).mono ?_; rintro e w1 ⟨rfl, rfl⟩)
    go_ret
    exact ⟨by rw [H.out]; rfl, rfl⟩
  · by_cases h2 : b < a
    · have H := Lib.hid (show cmp1 a b = 1 by unfold cmp1; rw [if_neg h1, if_pos h2])
      go_enter Try.func66, Try.ntmps66
      go_wp2_with (go_at_call 74; refine (cmpNaN_any _ _).mono ?_; rintro e w1 ⟨rfl, rfl⟩)
      go_ret
      exact ⟨by rw [H.out]; rfl, rfl⟩
    · have H := Lib.hid (show cmp1 a b = 0 by unfold cmp1; rw [if_neg h1, if_neg h2])
      go_enter Try.func66, Try.ntmps66
      go_wp2_with (go_at_call 74; refine (cmpNaN_any _ _).mono ?_; rintro e w1 ⟨rfl, rfl⟩)
      go_ret
      exact ⟨by rw [H.out]; rfl, rfl⟩
def cmpL : List Int → List Int → Int
  | x :: xs, y :: ys => if cmp1 x y = 0 then cmpL xs ys else cmp1 x y
  | _, _ => 0
theorem cmpL_drop {xs ys : List Int} {k : Nat} (hx : k < xs.length) (hy : k < ys.length) : cmpL (xs.drop k) (ys.drop k) = if cmp1 xs[k] ys[k] = 0 then cmpL (xs.drop (k + 1)) (ys.drop (k + 1)) else cmp1 xs[k] ys[k] := by
  rw [List.drop_eq_getElem_cons hx, List.drop_eq_getElem_cons hy]; rfl
set_option maxRecDepth 100000 in
set_option maxHeartbeats 1600000 in
theorem compare_any {w : World} {A A' : Option Addr} {n c c' : Nat} {xs ys : List Int} (hx : Hid (xs.length = n)) (hy : Hid (ys.length = n)) (hn : n ≤ 1099511627776) (hr : Rd w w.heap.size A (ivs xs)) (hr' : Rd w w.heap.size A' (ivs ys)) :
    Calls Try.prog 45 #[.slice A n c, .slice A' n c'] w (fun e w' => e = .returned (.int .i64 (cmpL xs ys)) ∧ w = w') := by
  go_enter Try.func45, Try.ntmps45
  go_wp2
  go_loop [11] (fun i => ∃ k : Nat, k ≤ n ∧ i = .int .i64 k ∧ Hid (cmpL xs ys = cmpL (xs.drop k) (ys.drop k))) (fun i => n - (intOf i).toNat)
  case atStart => exact ⟨0, Nat.zero_le _, rfl, rfl⟩
  case round =>
    obtain ⟨k, hk, rfl, heq⟩ := hrel
    by_cases hlt : k < n
    · have hkx : k < xs.length := by rw [hx.out]; exact hlt
      have hky : k < ys.length := by rw [hy.out]; exact hlt
      obtain ⟨ad, rfl, hab, hc⟩ := ivs_at hr hkx
      obtain ⟨ad', rfl, hab', hc'⟩ := ivs_at hr' hky
      have hd := cmpL_drop hkx hky
      obtain ⟨x, hxx⟩ : ∃ x, x = xs[k] := ⟨_, rfl⟩
      obtain ⟨y, hyy⟩ : ∃ y, y = ys[k] := ⟨_, rfl⟩
      rw [← hxx] at hc hd
      rw [← hyy] at hc' hd
      clear hxx hyy
      by_cases hz : cmp1 x y = 0
      · rw [if_pos hz] at hd
        have HD := Lib.hid (heq.out.trans hd)
        have HZ := Lib.hid hz
        clear hd hz
        go_wp2_with (go_at_call 66; refine (cmpInt_any _ _ _).mono ?_; rintro e w1 ⟨he, rfl⟩; rw [HZ.out] at he; subst he)
        go_round
        case rel => exact ⟨k + 1, by omega, by go_num, HD.out⟩
        case measure => simp [intOf]; omega
      · rw [if_neg hz] at hd
        have HD := Lib.hid (heq.out.trans hd)
        obtain ⟨z, hzz⟩ : ∃ z, z = cmp1 x y := ⟨_, rfl⟩
        rw [← hzz] at hz
        have HZ := Lib.hid hzz
        clear hd hzz
        go_wp2_with (go_at_call 66; refine (cmpInt_any _ _ _).mono ?_; rintro e w1 ⟨he, rfl⟩; rw [← HZ.out] at he; subst he)
        go_ret
        exact ⟨ret_i (by rw [HD.out, HZ.out]), rfl⟩
    · have e : k = n := by omega
      subst e
      have HE := Lib.hid (show cmpL xs ys = 0 by rw [heq.out, List.drop_of_length_le (by rw [hx.out]; omega)]; rfl)
      go_wp2
      go_ret
      exact ⟨ret_i (by rw [HE.out]), rfl⟩
theorem cmp_lt (p' q' p q : Int) : decide (0 ≤ cmpL [p', q'] [p, q]) = !(ltP [p', q'] [p, q]) := by
  simp only [cmpL, cmp1, ltP, List.getD_cons_zero, List.getD_cons_succ, Bool.not_not]
  by_cases h1 : p' < p
  · have h2 : ¬ p < p' := by omega
    have h3 : ¬ p' = p := by omega
    simp [h1, h2, h3]
  · by_cases h2 : p < p'
    · simp [h1, h2]
    · have h3 : p' = p := by omega
      subst h3
      by_cases h4 : q' < q
      · have h5 : ¬ q ≤ q' := by omega
        simp [h4, h5]
      · by_cases h5 : q < q'
        · have h6 : q ≤ q' := by omega
          simp [h4, h5, h6]
        · have h6 : q ≤ q' := by omega
          simp [h4, h5, h6]
end Go.Proofs.Ytncndlojceiejaa
