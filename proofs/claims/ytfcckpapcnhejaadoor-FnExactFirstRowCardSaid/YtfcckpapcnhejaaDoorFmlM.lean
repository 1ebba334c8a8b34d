/- Contracts of the models of chapter 10: IsFormula, NotOf, Join. No conditions but that the slices have at most 2^40 elements. -/
import Derived.Test.YtfcckpapcnhejaaDoorFmlMath
import Derived.Test.YtfcckpapcnhejaaDoorAppend
import Derived.Test.YtfcckpapcnhejaaDoorIntS
import Derived.Deep.RegionWith
namespace Go.Proofs.YtfcckpapcnhejaaDoor
open Go.ChangeShapes Go.WideShapes Go.ChangeAt Go.RowKit
set_option maxRecDepth 100000
theorem isF_bad {f : List Int} {k : Nat} (h : cntF (f.take k) = none) : isF f = false := by
  unfold isF
  rw [cntF_pre h]
  rfl
theorem isF_end {f : List Int} {n j : Nat} (hl : f.length = n) (h : cntF f = some j) : isF f = (decide (j = 1) && decide (n ≤ 24)) := by
  unfold isF
  rw [h, hl]
  simp
theorem take_next {f : List Int} {k : Nat} (h : k < f.length) : f.take (k + 1) = f.take k ++ [f[k]] := List.take_succ_eq_append_getElem h
theorem cnt_next {f : List Int} {k j : Nat} {x : Int} (hk : k < f.length) (hx : x = f[k]) (h : cntF (f.take k) = some j) : cntF (f.take (k + 1)) = stF (some j) x := by
  rw [take_next hk, cntF_snoc, h, hx]
set_option maxHeartbeats 2000000 in
theorem specIsFormula_any {w : World} {A : Option Addr} {n c : Nat} {f : List Int} (hl : Hid (f.length = n)) (hn : n ≤ 1099511627776) (hr : Rd w w.heap.size A (ivs f)) :
    Calls Tryd.prog 12 #[.slice A n c] w (fun e w' => e = .returned (.bool (isF f)) ∧ w = w') := by
  go_enter Tryd.func12, Tryd.ntmps12
  go_wp2
  go_loop [3, 4] (fun m i => ∃ k j : Nat, k ≤ n ∧ j ≤ k ∧ i = .int .i64 k ∧ m = .int .i64 j ∧ Hid (cntF (f.take k) = some j)) (fun _ i => n - (intOf i).toNat)
  case atStart => exact ⟨0, 0, Nat.zero_le _, Nat.zero_le _, rfl, rfl, Lib.hid rfl⟩
  case round =>
    obtain ⟨k, j, hk, hjk, rfl, rfl, hc⟩ := hrel
    by_cases hlt : k < n
    · have hkz : k < f.length := by rw [hl.out]; exact hlt
      obtain ⟨ad, rfl, hab, hcell⟩ := ivs_at hr hkz
      obtain ⟨x, hx⟩ : ∃ x, x = f[k] := ⟨_, rfl⟩
      rw [← hx] at hcell
      have HN := Lib.hid (cnt_next hkz hx hc.out)
      clear hx hr
      have fin : ∀ {P : Prop}, (stF (some j) x = none) → Hid (isF f = false) := fun h => Lib.hid (isF_bad (HN.out.trans h))
      by_cases h1 : 0 ≤ x ∧ x ≤ 5
      · have J1 := inr_t h1.1 h1.2
        have HS := Lib.hid (HN.out.trans (stF_let h1))
        clear h1 fin
        go_wp2_with (go_at_call 16; refine (l1In_any _ _ _ _).mono ?_; rintro e w1 ⟨rfl, rfl⟩)
        go_round
        case rel => exact ⟨k + 1, j + 1, by omega, by omega, by go_num, by go_num, HS.out⟩
        case measure => simp [intOf]; omega
      · have J1 : inr x 0 5 = false := inr_f (by omega)
        by_cases h2 : x = -1
        · subst h2
          have J2 : inr (-1) (-4) (-2) = false := by decide
          by_cases h3 : 1 ≤ j
          · have HS := Lib.hid (HN.out.trans (stF_not h3))
            clear h1 fin
            go_wp2_with (go_at_call 16; refine (l1In_any _ _ _ _).mono ?_; rintro e w1 ⟨rfl, rfl⟩)
            go_round
            case rel => exact ⟨k + 1, j, by omega, by omega, by go_num, rfl, HS.out⟩
            case measure => simp [intOf]; omega
          · have HB := fin (P := True) (stF_bad (by omega) (by omega) (by omega))
            clear h1 fin
            go_wp2_with (go_at_call 16; refine (l1In_any _ _ _ _).mono ?_; rintro e w1 ⟨rfl, rfl⟩)
            go_ret
            exact ⟨ret_b HB.out.symm, rfl⟩
        · have J3 : (x == -1) = false := beq_eq_false_iff_ne.2 h2
          by_cases h4 : -4 ≤ x ∧ x ≤ -2
          · have J2 := inr_t h4.1 h4.2
            by_cases h5 : 2 ≤ j
            · have HS := Lib.hid (HN.out.trans (stF_op h4 h5))
              clear h1 fin h2 h4
              go_wp2_with (go_at_call 16; refine (l1In_any _ _ _ _).mono ?_; rintro e w1 ⟨rfl, rfl⟩)
              go_round
              case rel => exact ⟨k + 1, j - 1, by omega, by omega, by go_num, by go_num, HS.out⟩
              case measure => simp [intOf]; omega
            · have HB := fin (P := True) (stF_bad h1 (by omega) (by omega))
              clear h1 fin h2 h4
              go_wp2_with (go_at_call 16; refine (l1In_any _ _ _ _).mono ?_; rintro e w1 ⟨rfl, rfl⟩)
              go_ret
              exact ⟨ret_b HB.out.symm, rfl⟩
          · have J2 : inr x (-4) (-2) = false := inr_f (by omega)
            have HB := fin (P := True) (stF_bad h1 (by omega) (by omega))
            clear h1 fin h2 h4
            go_wp2_with (go_at_call 16; refine (l1In_any _ _ _ _).mono ?_; rintro e w1 ⟨rfl, rfl⟩)
            go_ret
            exact ⟨ret_b HB.out.symm, rfl⟩
    · have e : k = n := by omega
      subst e
      have HE := Lib.hid (isF_end hl.out (by rw [← hc.out, List.take_of_length_le (by rw [hl.out]; exact Nat.le_refl _)]))
      by_cases h1 : j = 1
      · subst h1
        by_cases h2 : k ≤ 24
        · go_wp2
          go_ret
          exact ⟨ret_b (by rw [HE.out]; simp [h2]; omega), rfl⟩
        · go_wp2
          go_ret
          exact ⟨ret_b (by rw [HE.out]; simp [h2]; omega), rfl⟩
      · have h1' : ((j : Int) == 1) = false := beq_eq_false_iff_ne.2 (by omega)
        go_wp2
        go_ret
        exact ⟨ret_b (by rw [HE.out]; simp [h1]), rfl⟩
end Go.Proofs.YtfcckpapcnhejaaDoor
