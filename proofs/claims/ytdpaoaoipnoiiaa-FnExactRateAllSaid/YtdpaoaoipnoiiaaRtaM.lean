/- Contract of the model RateAll (chapter 25). Condition: the slices have at most 2^40 elements, of 64 bits each. -/
import Derived.Test.YtdpaoaoipnoiiaaRtaC
import Derived.Deep.DeepCutAuto
namespace Go.Proofs.Ytdpaoaoipnoiiaa
open Go.ChangeShapes Go.WideShapes Go.ChangeAt Go.RowKit
set_option maxRecDepth 100000
theorem l1In_Q9 {w : World} (a lo hi : Int) {b : Bool} (hb : inr a lo hi = b) : Calls Try.prog 70 #[.int .i64 a, .int .i64 lo, .int .i64 hi] w (fun e w' => e = .returned (.bool b) ∧ w = w') :=
  (l1In_any a lo hi _).mono fun _ _ ⟨h1, h2⟩ => ⟨by rw [h1, hb], h2⟩
set_option maxHeartbeats 8000000 in
theorem specRateAll_any {w : World} {A A' : Option Addr} {n c n' c' : Nat} {Z : List Int} {R : List (List Int)} (hl : Hid (Z.length = n)) (hn : n ≤ 1099511627776) (hr : Rd w w.heap.size A (ivs Z)) (hw : Hid (W64 Z)) (hl' : Hid (R.length = n')) (hn' : n' ≤ 1099511627776) (hs : Hid (∀ x ∈ R, x.length ≤ 1099511627776)) (hr' : RdSS w w.heap.size A' R) :
    Calls Try.prog 35 #[.slice A n c, .slice A' n' c'] w (Fresh 3 (ivs (ratL Z R)) w) := by
  obtain ⟨ti, hti, hz0, hz1, hz2⟩ := info_parts IntS_info
  have HLN := Lib.hid (fun (k : Nat) => show (ratL Z (R.take k)).length = n from (ratL_len Z _).trans hl.out)
  have HWK := Lib.hid (fun (k : Nat) => hw.out.ratL (R.take k))
  have b3 := alloc_r w (Obj.cells #[] 3)
  have HROW := Lib.hid (Row.made (w := w) w.heap.size #[] 0 3 (Nat.le_refl _) rfl (Nat.zero_le _))
  have HR := Lib.hid ((hr.below b3).more b3.size)
  have HB3 := Lib.hid b3
  have L1 := Lib.hid (show ([] : List Value).length + n ≤ maxLen ∧ (([] : List Value).length + n) * 8 ≤ 140737488355328 by unfold maxLen; simp; omega)
  have LN := Lib.hid (show (ivs Z).length = n by rw [ivs_len]; exact hl.out)
  clear b3
  go_enter Try.func35, Try.ntmps35
  go_wp2_with (at_builtin; (refine wpList_app rfl (.tmp 10) (.tmp 11) 29 rfl 3 ti _ 8 Try.underlying29 hti hz0 hz1 hz2 rfl rfl rfl HROW.out LN.out HR.out int_one L1.out.1 L1.out.2 (by simp) ?_; intro v1 w1 hrow1 ho1))
  have hb1 : Below w.heap.size w w1 := HB3.out.trans (ho1.below (Nat.le_refl _) (by simp))
  rw [List.nil_append] at hrow1
  obtain ⟨A1, c1, rfl, _, _, _⟩ := hrow1.rd (n := n) (by rw [ivs_len]; exact hl.out)
  have HROW1 := Lib.hid hrow1
  clear HROW HR HB3 L1 LN ho1 hrow1
  go_loopw [6] (fun i wr => ∃ k : Nat, k ≤ n' ∧ i = .int .i64 k ∧ Hid (Row wr w.heap.size wr.heap.size 3 (.slice A1 n c1) (ivs (ratL Z (R.take k)))) ∧ Below w.heap.size w wr) (fun i _ => n' - (intOf i).toNat)
  case atStart => exact ⟨0, Nat.zero_le _, rfl, HROW1, hb1⟩
  case round =>
    obtain ⟨k, hk, rfl, hrow, hb⟩ := hrel
    clear hb1 HROW1
    by_cases hlt : k < n'
    · have hkz : k < R.length := by rw [hl'.out]; exact hlt
      obtain ⟨ad, Aj, cj, rfl, hab, hcx, hle, hcm, hrd⟩ := (hr'.below hb).at_ hkz
      have HS := Lib.hid (ratL_succ (Z := Z) hkz)
      have hxl := hs.out R[k] (List.getElem_mem hkz)
      obtain ⟨r, hre⟩ : ∃ r, r = R[k] := ⟨_, rfl⟩
      rw [← hre] at hcx hle hrd hxl HS
      have hzl := HLN.out k
      have hwk := HWK.out k
      obtain ⟨Y, hY⟩ : ∃ Y, ratL Z (R.take k) = Y := ⟨_, rfl⟩
      rw [hY] at HS hzl hwk hrow
      have HYL := Lib.hid hzl
      have HWY := Lib.hid hwk
      have i0 : (0 : Int) ≤ (k : Int) := by omega
      have i1 : (k : Int) < (n' : Int) := by omega
      have hsz := hb.size
      have HRD := Lib.hid hrd
      have wn := IntWalk.i64_in ((n : Int) - 1) (by omega)
      clear hre hY hzl hwk hrd
      by_cases h2 : r.length = 2
      · obtain ⟨p, q, rfl⟩ : ∃ p q, r = [p, q] := by
          match r, h2 with
          | [p, q], _ => exact ⟨p, q, rfl⟩
        obtain ⟨ag, ao, rfl, hag, e0, e1⟩ := rd2 HRD.out
        have HV0 := Lib.hid (show isRb [p, q] n = (inr p 0 ((n : Int) - 1) && inr q 0 ((n : Int) - 1) && !(p == q)) by simp [isRb])
        have HNO := Lib.hid (show isRb [p, q] n = false → ratL Z (R.take (k + 1)) = Y from fun h => by rw [HS.out]; exact rat1_no (by rw [HYL.out]; exact h))
        have KE := fun (u : World) (r : Below wr.heap.size wr u) => show Below wr.heap.size wr u ∧ u.cell? ⟨ag, ao, none⟩ = some (.int .i64 p) ∧ u.cell? ⟨ag, ao + 1, none⟩ = some (.int .i64 q) from ⟨r, nw_c r e0, nw_c r e1⟩
        rw [show ([p, q] : List Int).length = 2 from rfl] at hcx
        clear h2
        cases q1 : inr p 0 ((n : Int) - 1) with
        | false =>
          have HN := Lib.hid (HNO.out (by rw [HV0.out, q1]; rfl))
          have HQ := Lib.hid q1
          clear q1
          go_wp2_with fail
          refine wp_region_quiet (C := fun u => Below wr.heap.size wr u ∧ u.cell? ⟨ag, ao, none⟩ = some (.int .i64 p) ∧ u.cell? ⟨ag, ao + 1, none⟩ = some (.int .i64 q)) (by kernel_rfl) (by kernel_rfl) (KE _ (Below.refl _ _).drew) ?_
          rw [List.toList_toArray]
          go_big_quiet_want
          go_big_quiet_op
          go_big_quiet_on
          go_big_quiet_want
          apply Exists.intro
          refine ⟨fun u hu => ?_, ?_⟩
          · obtain ⟨hu0, hu1, hu2⟩ := hu
            unfold Oper.quietAt
            go_simp
            try rfl
          simp only [Act.put, List.setIfInBounds_toArray, List.set_cons_zero, List.set_cons_succ]
          go_big_quiet_on
          go_big_quiet_want
          apply Exists.intro
          refine ⟨fun u hu => ?_, ?_⟩
          · obtain ⟨hu0, hu1, hu2⟩ := hu
            unfold Oper.quietAt
            go_simp
            try rfl
          simp only [Act.put, List.setIfInBounds_toArray, List.set_cons_zero, List.set_cons_succ]
          go_big_quiet_on
          go_big_quiet_want
          go_big_quiet_op
          go_big_quiet_on
          go_big_quiet_want
          go_big_quiet_op
          go_big_quiet_on
          go_big_quiet_want
          apply Exists.intro
          refine ⟨fun u hu => ?_, ?_⟩
          · obtain ⟨hu0, hu1, hu2⟩ := hu
            unfold Oper.quietAt
            go_simp
            try rfl
          simp only [Act.put, List.setIfInBounds_toArray, List.set_cons_zero, List.set_cons_succ]
          go_big_quiet_on
          go_big_quiet_want
          apply Exists.intro
          refine ⟨fun u hu => ?_, ?_⟩
          · obtain ⟨hu0, hu1, hu2⟩ := hu
            unfold Oper.quietAt
            go_simp
            try rfl
          simp only [Act.put, List.setIfInBounds_toArray, List.set_cons_zero, List.set_cons_succ]
          go_big_quiet_on
          go_big_quiet_want
          go_big_quiet_op
          go_big_quiet_on
          go_big_quiet_want
          apply Exists.intro
          refine ⟨fun u hu => ?_, ?_⟩
          · obtain ⟨hu0, hu1, hu2⟩ := hu
            unfold Oper.quietAt
            go_simp
            try rfl
          simp only [Act.put, List.setIfInBounds_toArray, List.set_cons_zero, List.set_cons_succ]
          go_big_quiet_on
          go_big_quiet_want
          apply Exists.intro
          refine ⟨fun u hu => ?_, ?_⟩
          · obtain ⟨hu0, hu1, hu2⟩ := hu
            unfold Oper.quietAt
            go_simp
            try rfl
          simp only [Act.put, List.setIfInBounds_toArray, List.set_cons_zero, List.set_cons_succ]
          go_big_quiet_on
          go_big_quiet_want
          refine ⟨.bool false, fun u hu => ?_, ?_⟩
          · obtain ⟨hu0, hu1, hu2⟩ := hu
            unfold Oper.quietAt
            go_simp
            refine (l1In_Q9 _ _ _ HQ.out).mono ?_
            rintro e u9 ⟨rfl, rfl⟩
            exact ⟨rfl, ⟨hu0, hu1, hu2⟩⟩
          simp only [Act.put, List.setIfInBounds_toArray, List.set_cons_zero, List.set_cons_succ]
          go_big_quiet_on
          go_big_quiet_want
          apply Exists.intro
          refine ⟨fun u hu => ?_, ?_⟩
          · obtain ⟨hu0, hu1, hu2⟩ := hu
            unfold Oper.quietAt
            go_simp
            try rfl
          simp only [Act.put, List.setIfInBounds_toArray, List.set_cons_zero, List.set_cons_succ]
          go_big_quiet_on
          go_big_quiet_want
          apply Exists.intro
          refine ⟨fun u hu => ?_, ?_⟩
          · obtain ⟨hu0, hu1, hu2⟩ := hu
            unfold Oper.quietAt
            go_simp
            try rfl
          simp only [Act.put, List.setIfInBounds_toArray, List.set_cons_zero, List.set_cons_succ]
          go_big_quiet_on
          go_big_quiet_want
          go_big_quiet_op
          go_big_quiet_on
          repeat go_big_quiet_skip
          go_big_quiet_want
          apply Exists.intro
          refine ⟨fun u hu => ?_, ?_⟩
          · obtain ⟨hu0, hu1, hu2⟩ := hu
            unfold Oper.quietAt
            go_simp
            try rfl
          simp only [Act.put, List.setIfInBounds_toArray, List.set_cons_zero, List.set_cons_succ]
          go_big_quiet_on
          go_big_quiet_want
          go_big_quiet_op
          go_big_quiet_on
          repeat go_big_quiet_skip
          go_big_quiet_want
          apply Exists.intro
          refine ⟨fun u hu => ?_, ?_⟩
          · obtain ⟨hu0, hu1, hu2⟩ := hu
            unfold Oper.quietAt
            go_simp
            try rfl
          simp only [Act.put, List.setIfInBounds_toArray, List.set_cons_zero, List.set_cons_succ]
          go_big_quiet_on
          refine wpQuiet_nil ?_
          rintro u ⟨r2, _⟩
          have HR2 := Lib.hid (show Row u w.heap.size u.heap.size 3 (.slice A1 n c1) (ivs (ratL Z (R.take (k + 1)))) by rw [HN.out]; exact (hrow.out.new r2).wide (Nat.le_refl _) r2.size)
          have hb2 := hb.trans (r2.mono hsz)
          clear r2
          go_wp2_with fail
          go_roundw
          case rel => exact ⟨k + 1, by omega, by go_num, HR2, hb2⟩
          case measure => simp [intOf]; omega
        | true =>
          cases q2 : inr q 0 ((n : Int) - 1) with
          | false =>
            have HN := Lib.hid (HNO.out (by rw [HV0.out, q1, q2]; rfl))
            have HQ := Lib.hid q1
            have HSQ := Lib.hid q2
            clear q1 q2
            go_wp2_with fail
            refine wp_region_quiet (C := fun u => Below wr.heap.size wr u ∧ u.cell? ⟨ag, ao, none⟩ = some (.int .i64 p) ∧ u.cell? ⟨ag, ao + 1, none⟩ = some (.int .i64 q)) (by kernel_rfl) (by kernel_rfl) (KE _ (Below.refl _ _).drew) ?_
            rw [List.toList_toArray]
            go_big_quiet_want
            go_big_quiet_op
            go_big_quiet_on
            go_big_quiet_want
            apply Exists.intro
            refine ⟨fun u hu => ?_, ?_⟩
            · obtain ⟨hu0, hu1, hu2⟩ := hu
              unfold Oper.quietAt
              go_simp
              try rfl
            simp only [Act.put, List.setIfInBounds_toArray, List.set_cons_zero, List.set_cons_succ]
            go_big_quiet_on
            go_big_quiet_want
            apply Exists.intro
            refine ⟨fun u hu => ?_, ?_⟩
            · obtain ⟨hu0, hu1, hu2⟩ := hu
              unfold Oper.quietAt
              go_simp
              try rfl
            simp only [Act.put, List.setIfInBounds_toArray, List.set_cons_zero, List.set_cons_succ]
            go_big_quiet_on
            go_big_quiet_want
            go_big_quiet_op
            go_big_quiet_on
            go_big_quiet_want
            go_big_quiet_op
            go_big_quiet_on
            go_big_quiet_want
            apply Exists.intro
            refine ⟨fun u hu => ?_, ?_⟩
            · obtain ⟨hu0, hu1, hu2⟩ := hu
              unfold Oper.quietAt
              go_simp
              try rfl
            simp only [Act.put, List.setIfInBounds_toArray, List.set_cons_zero, List.set_cons_succ]
            go_big_quiet_on
            go_big_quiet_want
            apply Exists.intro
            refine ⟨fun u hu => ?_, ?_⟩
            · obtain ⟨hu0, hu1, hu2⟩ := hu
              unfold Oper.quietAt
              go_simp
              try rfl
            simp only [Act.put, List.setIfInBounds_toArray, List.set_cons_zero, List.set_cons_succ]
            go_big_quiet_on
            go_big_quiet_want
            go_big_quiet_op
            go_big_quiet_on
            go_big_quiet_want
            apply Exists.intro
            refine ⟨fun u hu => ?_, ?_⟩
            · obtain ⟨hu0, hu1, hu2⟩ := hu
              unfold Oper.quietAt
              go_simp
              try rfl
            simp only [Act.put, List.setIfInBounds_toArray, List.set_cons_zero, List.set_cons_succ]
            go_big_quiet_on
            go_big_quiet_want
            apply Exists.intro
            refine ⟨fun u hu => ?_, ?_⟩
            · obtain ⟨hu0, hu1, hu2⟩ := hu
              unfold Oper.quietAt
              go_simp
              try rfl
            simp only [Act.put, List.setIfInBounds_toArray, List.set_cons_zero, List.set_cons_succ]
            go_big_quiet_on
            go_big_quiet_want
            refine ⟨.bool true, fun u hu => ?_, ?_⟩
            · obtain ⟨hu0, hu1, hu2⟩ := hu
              unfold Oper.quietAt
              go_simp
              refine (l1In_Q9 _ _ _ HQ.out).mono ?_
              rintro e u9 ⟨rfl, rfl⟩
              exact ⟨rfl, ⟨hu0, hu1, hu2⟩⟩
            simp only [Act.put, List.setIfInBounds_toArray, List.set_cons_zero, List.set_cons_succ]
            go_big_quiet_on
            go_big_quiet_want
            apply Exists.intro
            refine ⟨fun u hu => ?_, ?_⟩
            · obtain ⟨hu0, hu1, hu2⟩ := hu
              unfold Oper.quietAt
              go_simp
              try rfl
            simp only [Act.put, List.setIfInBounds_toArray, List.set_cons_zero, List.set_cons_succ]
            go_big_quiet_on
            go_big_quiet_want
            apply Exists.intro
            refine ⟨fun u hu => ?_, ?_⟩
            · obtain ⟨hu0, hu1, hu2⟩ := hu
              unfold Oper.quietAt
              go_simp
              try rfl
            simp only [Act.put, List.setIfInBounds_toArray, List.set_cons_zero, List.set_cons_succ]
            go_big_quiet_on
            go_big_quiet_want
            go_big_quiet_op
            go_big_quiet_on
            go_big_quiet_want
            go_big_quiet_op
            go_big_quiet_on
            go_big_quiet_want
            apply Exists.intro
            refine ⟨fun u hu => ?_, ?_⟩
            · obtain ⟨hu0, hu1, hu2⟩ := hu
              unfold Oper.quietAt
              go_simp
              try rfl
            simp only [Act.put, List.setIfInBounds_toArray, List.set_cons_zero, List.set_cons_succ]
            go_big_quiet_on
            go_big_quiet_want
            apply Exists.intro
            refine ⟨fun u hu => ?_, ?_⟩
            · obtain ⟨hu0, hu1, hu2⟩ := hu
              unfold Oper.quietAt
              go_simp
              try rfl
            simp only [Act.put, List.setIfInBounds_toArray, List.set_cons_zero, List.set_cons_succ]
            go_big_quiet_on
            go_big_quiet_want
            go_big_quiet_op
            go_big_quiet_on
            go_big_quiet_want
            apply Exists.intro
            refine ⟨fun u hu => ?_, ?_⟩
            · obtain ⟨hu0, hu1, hu2⟩ := hu
              unfold Oper.quietAt
              go_simp
              try rfl
            simp only [Act.put, List.setIfInBounds_toArray, List.set_cons_zero, List.set_cons_succ]
            go_big_quiet_on
            go_big_quiet_want
            apply Exists.intro
            refine ⟨fun u hu => ?_, ?_⟩
            · obtain ⟨hu0, hu1, hu2⟩ := hu
              unfold Oper.quietAt
              go_simp
              try rfl
            simp only [Act.put, List.setIfInBounds_toArray, List.set_cons_zero, List.set_cons_succ]
            go_big_quiet_on
            go_big_quiet_want
            refine ⟨.bool false, fun u hu => ?_, ?_⟩
            · obtain ⟨hu0, hu1, hu2⟩ := hu
              unfold Oper.quietAt
              go_simp
              refine (l1In_Q9 _ _ _ HSQ.out).mono ?_
              rintro e u9 ⟨rfl, rfl⟩
              exact ⟨rfl, ⟨hu0, hu1, hu2⟩⟩
            simp only [Act.put, List.setIfInBounds_toArray, List.set_cons_zero, List.set_cons_succ]
            go_big_quiet_on
            go_big_quiet_want
            apply Exists.intro
            refine ⟨fun u hu => ?_, ?_⟩
            · obtain ⟨hu0, hu1, hu2⟩ := hu
              unfold Oper.quietAt
              go_simp
              try rfl
            simp only [Act.put, List.setIfInBounds_toArray, List.set_cons_zero, List.set_cons_succ]
            go_big_quiet_on
            go_big_quiet_want
            apply Exists.intro
            refine ⟨fun u hu => ?_, ?_⟩
            · obtain ⟨hu0, hu1, hu2⟩ := hu
              unfold Oper.quietAt
              go_simp
              try rfl
            simp only [Act.put, List.setIfInBounds_toArray, List.set_cons_zero, List.set_cons_succ]
            go_big_quiet_on
            go_big_quiet_want
            go_big_quiet_op
            go_big_quiet_on
            repeat go_big_quiet_skip
            go_big_quiet_want
            apply Exists.intro
            refine ⟨fun u hu => ?_, ?_⟩
            · obtain ⟨hu0, hu1, hu2⟩ := hu
              unfold Oper.quietAt
              go_simp
              try rfl
            simp only [Act.put, List.setIfInBounds_toArray, List.set_cons_zero, List.set_cons_succ]
            go_big_quiet_on
            refine wpQuiet_nil ?_
            rintro u ⟨r2, _⟩
            have HR2 := Lib.hid (show Row u w.heap.size u.heap.size 3 (.slice A1 n c1) (ivs (ratL Z (R.take (k + 1)))) by rw [HN.out]; exact (hrow.out.new r2).wide (Nat.le_refl _) r2.size)
            have hb2 := hb.trans (r2.mono hsz)
            clear r2
            go_wp2_with fail
            go_roundw
            case rel => exact ⟨k + 1, by omega, by go_num, HR2, hb2⟩
            case measure => simp [intOf]; omega
          | true =>
            by_cases hpq : p = q
            · subst hpq
              have HN := Lib.hid (HNO.out (by rw [HV0.out, q1]; simp))
              have HQ := Lib.hid q1
              have HSQ := Lib.hid q2
              clear q1 q2
              go_wp2_with fail
              refine wp_region_quiet (C := fun u => Below wr.heap.size wr u ∧ u.cell? ⟨ag, ao, none⟩ = some (.int .i64 p) ∧ u.cell? ⟨ag, ao + 1, none⟩ = some (.int .i64 p)) (by kernel_rfl) (by kernel_rfl) (KE _ (Below.refl _ _).drew) ?_
              rw [List.toList_toArray]
              go_big_quiet_want
              go_big_quiet_op
              go_big_quiet_on
              go_big_quiet_want
              apply Exists.intro
              refine ⟨fun u hu => ?_, ?_⟩
              · obtain ⟨hu0, hu1, hu2⟩ := hu
                unfold Oper.quietAt
                go_simp
                try rfl
              simp only [Act.put, List.setIfInBounds_toArray, List.set_cons_zero, List.set_cons_succ]
              go_big_quiet_on
              go_big_quiet_want
              apply Exists.intro
              refine ⟨fun u hu => ?_, ?_⟩
              · obtain ⟨hu0, hu1, hu2⟩ := hu
                unfold Oper.quietAt
                go_simp
                try rfl
              simp only [Act.put, List.setIfInBounds_toArray, List.set_cons_zero, List.set_cons_succ]
              go_big_quiet_on
              go_big_quiet_want
              go_big_quiet_op
              go_big_quiet_on
              go_big_quiet_want
              go_big_quiet_op
              go_big_quiet_on
              go_big_quiet_want
              apply Exists.intro
              refine ⟨fun u hu => ?_, ?_⟩
              · obtain ⟨hu0, hu1, hu2⟩ := hu
                unfold Oper.quietAt
                go_simp
                try rfl
              simp only [Act.put, List.setIfInBounds_toArray, List.set_cons_zero, List.set_cons_succ]
              go_big_quiet_on
              go_big_quiet_want
              apply Exists.intro
              refine ⟨fun u hu => ?_, ?_⟩
              · obtain ⟨hu0, hu1, hu2⟩ := hu
                unfold Oper.quietAt
                go_simp
                try rfl
              simp only [Act.put, List.setIfInBounds_toArray, List.set_cons_zero, List.set_cons_succ]
              go_big_quiet_on
              go_big_quiet_want
              go_big_quiet_op
              go_big_quiet_on
              go_big_quiet_want
              apply Exists.intro
              refine ⟨fun u hu => ?_, ?_⟩
              · obtain ⟨hu0, hu1, hu2⟩ := hu
                unfold Oper.quietAt
                go_simp
                try rfl
              simp only [Act.put, List.setIfInBounds_toArray, List.set_cons_zero, List.set_cons_succ]
              go_big_quiet_on
              go_big_quiet_want
              apply Exists.intro
              refine ⟨fun u hu => ?_, ?_⟩
              · obtain ⟨hu0, hu1, hu2⟩ := hu
                unfold Oper.quietAt
                go_simp
                try rfl
              simp only [Act.put, List.setIfInBounds_toArray, List.set_cons_zero, List.set_cons_succ]
              go_big_quiet_on
              go_big_quiet_want
              refine ⟨.bool true, fun u hu => ?_, ?_⟩
              · obtain ⟨hu0, hu1, hu2⟩ := hu
                unfold Oper.quietAt
                go_simp
                refine (l1In_Q9 _ _ _ HQ.out).mono ?_
                rintro e u9 ⟨rfl, rfl⟩
                exact ⟨rfl, ⟨hu0, hu1, hu2⟩⟩
              simp only [Act.put, List.setIfInBounds_toArray, List.set_cons_zero, List.set_cons_succ]
              go_big_quiet_on
              go_big_quiet_want
              apply Exists.intro
              refine ⟨fun u hu => ?_, ?_⟩
              · obtain ⟨hu0, hu1, hu2⟩ := hu
                unfold Oper.quietAt
                go_simp
                try rfl
              simp only [Act.put, List.setIfInBounds_toArray, List.set_cons_zero, List.set_cons_succ]
              go_big_quiet_on
              go_big_quiet_want
              apply Exists.intro
              refine ⟨fun u hu => ?_, ?_⟩
              · obtain ⟨hu0, hu1, hu2⟩ := hu
                unfold Oper.quietAt
                go_simp
                try rfl
              simp only [Act.put, List.setIfInBounds_toArray, List.set_cons_zero, List.set_cons_succ]
              go_big_quiet_on
              go_big_quiet_want
              go_big_quiet_op
              go_big_quiet_on
              go_big_quiet_want
              go_big_quiet_op
              go_big_quiet_on
              go_big_quiet_want
              apply Exists.intro
              refine ⟨fun u hu => ?_, ?_⟩
              · obtain ⟨hu0, hu1, hu2⟩ := hu
                unfold Oper.quietAt
                go_simp
                try rfl
              simp only [Act.put, List.setIfInBounds_toArray, List.set_cons_zero, List.set_cons_succ]
              go_big_quiet_on
              go_big_quiet_want
              apply Exists.intro
              refine ⟨fun u hu => ?_, ?_⟩
              · obtain ⟨hu0, hu1, hu2⟩ := hu
                unfold Oper.quietAt
                go_simp
                try rfl
              simp only [Act.put, List.setIfInBounds_toArray, List.set_cons_zero, List.set_cons_succ]
              go_big_quiet_on
              go_big_quiet_want
              go_big_quiet_op
              go_big_quiet_on
              go_big_quiet_want
              apply Exists.intro
              refine ⟨fun u hu => ?_, ?_⟩
              · obtain ⟨hu0, hu1, hu2⟩ := hu
                unfold Oper.quietAt
                go_simp
                try rfl
              simp only [Act.put, List.setIfInBounds_toArray, List.set_cons_zero, List.set_cons_succ]
              go_big_quiet_on
              go_big_quiet_want
              apply Exists.intro
              refine ⟨fun u hu => ?_, ?_⟩
              · obtain ⟨hu0, hu1, hu2⟩ := hu
                unfold Oper.quietAt
                go_simp
                try rfl
              simp only [Act.put, List.setIfInBounds_toArray, List.set_cons_zero, List.set_cons_succ]
              go_big_quiet_on
              go_big_quiet_want
              refine ⟨.bool true, fun u hu => ?_, ?_⟩
              · obtain ⟨hu0, hu1, hu2⟩ := hu
                unfold Oper.quietAt
                go_simp
                refine (l1In_Q9 _ _ _ HSQ.out).mono ?_
                rintro e u9 ⟨rfl, rfl⟩
                exact ⟨rfl, ⟨hu0, hu1, hu2⟩⟩
              simp only [Act.put, List.setIfInBounds_toArray, List.set_cons_zero, List.set_cons_succ]
              go_big_quiet_on
              go_big_quiet_want
              apply Exists.intro
              refine ⟨fun u hu => ?_, ?_⟩
              · obtain ⟨hu0, hu1, hu2⟩ := hu
                unfold Oper.quietAt
                go_simp
                try rfl
              simp only [Act.put, List.setIfInBounds_toArray, List.set_cons_zero, List.set_cons_succ]
              go_big_quiet_on
              go_big_quiet_want
              apply Exists.intro
              refine ⟨fun u hu => ?_, ?_⟩
              · obtain ⟨hu0, hu1, hu2⟩ := hu
                unfold Oper.quietAt
                go_simp
                try rfl
              simp only [Act.put, List.setIfInBounds_toArray, List.set_cons_zero, List.set_cons_succ]
              go_big_quiet_on
              go_big_quiet_want
              go_big_quiet_op
              go_big_quiet_on
              go_big_quiet_want
              go_big_quiet_op
              go_big_quiet_on
              go_big_quiet_want
              apply Exists.intro
              refine ⟨fun u hu => ?_, ?_⟩
              · obtain ⟨hu0, hu1, hu2⟩ := hu
                unfold Oper.quietAt
                go_simp
                try rfl
              simp only [Act.put, List.setIfInBounds_toArray, List.set_cons_zero, List.set_cons_succ]
              go_big_quiet_on
              go_big_quiet_want
              apply Exists.intro
              refine ⟨fun u hu => ?_, ?_⟩
              · obtain ⟨hu0, hu1, hu2⟩ := hu
                unfold Oper.quietAt
                go_simp
                try rfl
              simp only [Act.put, List.setIfInBounds_toArray, List.set_cons_zero, List.set_cons_succ]
              go_big_quiet_on
              go_big_quiet_want
              go_big_quiet_op
              go_big_quiet_on
              go_big_quiet_want
              apply Exists.intro
              refine ⟨fun u hu => ?_, ?_⟩
              · obtain ⟨hu0, hu1, hu2⟩ := hu
                unfold Oper.quietAt
                go_simp
                try rfl
              simp only [Act.put, List.setIfInBounds_toArray, List.set_cons_zero, List.set_cons_succ]
              go_big_quiet_on
              go_big_quiet_want
              apply Exists.intro
              refine ⟨fun u hu => ?_, ?_⟩
              · obtain ⟨hu0, hu1, hu2⟩ := hu
                unfold Oper.quietAt
                go_simp
                try rfl
              simp only [Act.put, List.setIfInBounds_toArray, List.set_cons_zero, List.set_cons_succ]
              go_big_quiet_on
              go_big_quiet_want
              apply Exists.intro
              refine ⟨fun u hu => ?_, ?_⟩
              · obtain ⟨hu0, hu1, hu2⟩ := hu
                unfold Oper.quietAt
                go_simp
                try rfl
              simp only [Act.put, List.setIfInBounds_toArray, List.set_cons_zero, List.set_cons_succ]
              go_big_quiet_on
              go_big_quiet_want
              apply Exists.intro
              refine ⟨fun u hu => ?_, ?_⟩
              · obtain ⟨hu0, hu1, hu2⟩ := hu
                unfold Oper.quietAt
                go_simp
                try rfl
              simp only [Act.put, List.setIfInBounds_toArray, List.set_cons_zero, List.set_cons_succ]
              go_big_quiet_on
              refine wpQuiet_nil ?_
              rintro u ⟨r2, _⟩
              have HR2 := Lib.hid (show Row u w.heap.size u.heap.size 3 (.slice A1 n c1) (ivs (ratL Z (R.take (k + 1)))) by rw [HN.out]; exact (hrow.out.new r2).wide (Nat.le_refl _) r2.size)
              have hb2 := hb.trans (r2.mono hsz)
              clear r2
              go_wp2_with fail
              go_roundw
              case rel => exact ⟨k + 1, by omega, by go_num, HR2, hb2⟩
              case measure => simp [intOf]; omega
            · have hpq' : (p == q) = false := by simpa using hpq
              obtain ⟨i, j, hij, hi, hj, hne⟩ := isRb_iff.1 (show isRb [p, q] n = true by rw [HV0.out, q1, q2]; simpa using hpq)
              have hpi : p = i := by simpa using congrArg (fun l => l.getD 0 0) hij
              have hqj : q = j := by simpa using congrArg (fun l => l.getD 1 0) hij
              subst hpi hqj
              have HOK := Lib.hid (show ratL Z (R.take (k + 1)) = _ from HS.out.trans (rat1_ok (by rw [HYL.out]; exact hi) (by rw [HYL.out]; exact hj) hne))
              have HQ := Lib.hid q1
              have HSQ := Lib.hid q2
              clear q1 q2 hij hpq
              go_wp2_with fail
              refine wp_region_quiet (C := fun u => Below wr.heap.size wr u ∧ u.cell? ⟨ag, ao, none⟩ = some (.int .i64 (i : Int)) ∧ u.cell? ⟨ag, ao + 1, none⟩ = some (.int .i64 (j : Int))) (by kernel_rfl) (by kernel_rfl) (KE _ (Below.refl _ _).drew) ?_
              rw [List.toList_toArray]
              go_big_quiet_want
              go_big_quiet_op
              go_big_quiet_on
              go_big_quiet_want
              apply Exists.intro
              refine ⟨fun u hu => ?_, ?_⟩
              · obtain ⟨hu0, hu1, hu2⟩ := hu
                unfold Oper.quietAt
                go_simp
                try rfl
              simp only [Act.put, List.setIfInBounds_toArray, List.set_cons_zero, List.set_cons_succ]
              go_big_quiet_on
              go_big_quiet_want
              apply Exists.intro
              refine ⟨fun u hu => ?_, ?_⟩
              · obtain ⟨hu0, hu1, hu2⟩ := hu
                unfold Oper.quietAt
                go_simp
                try rfl
              simp only [Act.put, List.setIfInBounds_toArray, List.set_cons_zero, List.set_cons_succ]
              go_big_quiet_on
              go_big_quiet_want
              go_big_quiet_op
              go_big_quiet_on
              go_big_quiet_want
              go_big_quiet_op
              go_big_quiet_on
              go_big_quiet_want
              apply Exists.intro
              refine ⟨fun u hu => ?_, ?_⟩
              · obtain ⟨hu0, hu1, hu2⟩ := hu
                unfold Oper.quietAt
                go_simp
                try rfl
              simp only [Act.put, List.setIfInBounds_toArray, List.set_cons_zero, List.set_cons_succ]
              go_big_quiet_on
              go_big_quiet_want
              apply Exists.intro
              refine ⟨fun u hu => ?_, ?_⟩
              · obtain ⟨hu0, hu1, hu2⟩ := hu
                unfold Oper.quietAt
                go_simp
                try rfl
              simp only [Act.put, List.setIfInBounds_toArray, List.set_cons_zero, List.set_cons_succ]
              go_big_quiet_on
              go_big_quiet_want
              go_big_quiet_op
              go_big_quiet_on
              go_big_quiet_want
              apply Exists.intro
              refine ⟨fun u hu => ?_, ?_⟩
              · obtain ⟨hu0, hu1, hu2⟩ := hu
                unfold Oper.quietAt
                go_simp
                try rfl
              simp only [Act.put, List.setIfInBounds_toArray, List.set_cons_zero, List.set_cons_succ]
              go_big_quiet_on
              go_big_quiet_want
              apply Exists.intro
              refine ⟨fun u hu => ?_, ?_⟩
              · obtain ⟨hu0, hu1, hu2⟩ := hu
                unfold Oper.quietAt
                go_simp
                try rfl
              simp only [Act.put, List.setIfInBounds_toArray, List.set_cons_zero, List.set_cons_succ]
              go_big_quiet_on
              go_big_quiet_want
              refine ⟨.bool true, fun u hu => ?_, ?_⟩
              · obtain ⟨hu0, hu1, hu2⟩ := hu
                unfold Oper.quietAt
                go_simp
                refine (l1In_Q9 _ _ _ HQ.out).mono ?_
                rintro e u9 ⟨rfl, rfl⟩
                exact ⟨rfl, ⟨hu0, hu1, hu2⟩⟩
              simp only [Act.put, List.setIfInBounds_toArray, List.set_cons_zero, List.set_cons_succ]
              go_big_quiet_on
              go_big_quiet_want
              apply Exists.intro
              refine ⟨fun u hu => ?_, ?_⟩
              · obtain ⟨hu0, hu1, hu2⟩ := hu
                unfold Oper.quietAt
                go_simp
                try rfl
              simp only [Act.put, List.setIfInBounds_toArray, List.set_cons_zero, List.set_cons_succ]
              go_big_quiet_on
              go_big_quiet_want
              apply Exists.intro
              refine ⟨fun u hu => ?_, ?_⟩
              · obtain ⟨hu0, hu1, hu2⟩ := hu
                unfold Oper.quietAt
                go_simp
                try rfl
              simp only [Act.put, List.setIfInBounds_toArray, List.set_cons_zero, List.set_cons_succ]
              go_big_quiet_on
              go_big_quiet_want
              go_big_quiet_op
              go_big_quiet_on
              go_big_quiet_want
              go_big_quiet_op
              go_big_quiet_on
              go_big_quiet_want
              apply Exists.intro
              refine ⟨fun u hu => ?_, ?_⟩
              · obtain ⟨hu0, hu1, hu2⟩ := hu
                unfold Oper.quietAt
                go_simp
                try rfl
              simp only [Act.put, List.setIfInBounds_toArray, List.set_cons_zero, List.set_cons_succ]
              go_big_quiet_on
              go_big_quiet_want
              apply Exists.intro
              refine ⟨fun u hu => ?_, ?_⟩
              · obtain ⟨hu0, hu1, hu2⟩ := hu
                unfold Oper.quietAt
                go_simp
                try rfl
              simp only [Act.put, List.setIfInBounds_toArray, List.set_cons_zero, List.set_cons_succ]
              go_big_quiet_on
              go_big_quiet_want
              go_big_quiet_op
              go_big_quiet_on
              go_big_quiet_want
              apply Exists.intro
              refine ⟨fun u hu => ?_, ?_⟩
              · obtain ⟨hu0, hu1, hu2⟩ := hu
                unfold Oper.quietAt
                go_simp
                try rfl
              simp only [Act.put, List.setIfInBounds_toArray, List.set_cons_zero, List.set_cons_succ]
              go_big_quiet_on
              go_big_quiet_want
              apply Exists.intro
              refine ⟨fun u hu => ?_, ?_⟩
              · obtain ⟨hu0, hu1, hu2⟩ := hu
                unfold Oper.quietAt
                go_simp
                try rfl
              simp only [Act.put, List.setIfInBounds_toArray, List.set_cons_zero, List.set_cons_succ]
              go_big_quiet_on
              go_big_quiet_want
              refine ⟨.bool true, fun u hu => ?_, ?_⟩
              · obtain ⟨hu0, hu1, hu2⟩ := hu
                unfold Oper.quietAt
                go_simp
                refine (l1In_Q9 _ _ _ HSQ.out).mono ?_
                rintro e u9 ⟨rfl, rfl⟩
                exact ⟨rfl, ⟨hu0, hu1, hu2⟩⟩
              simp only [Act.put, List.setIfInBounds_toArray, List.set_cons_zero, List.set_cons_succ]
              go_big_quiet_on
              go_big_quiet_want
              apply Exists.intro
              refine ⟨fun u hu => ?_, ?_⟩
              · obtain ⟨hu0, hu1, hu2⟩ := hu
                unfold Oper.quietAt
                go_simp
                try rfl
              simp only [Act.put, List.setIfInBounds_toArray, List.set_cons_zero, List.set_cons_succ]
              go_big_quiet_on
              go_big_quiet_want
              apply Exists.intro
              refine ⟨fun u hu => ?_, ?_⟩
              · obtain ⟨hu0, hu1, hu2⟩ := hu
                unfold Oper.quietAt
                go_simp
                try rfl
              simp only [Act.put, List.setIfInBounds_toArray, List.set_cons_zero, List.set_cons_succ]
              go_big_quiet_on
              go_big_quiet_want
              go_big_quiet_op
              go_big_quiet_on
              go_big_quiet_want
              go_big_quiet_op
              go_big_quiet_on
              go_big_quiet_want
              apply Exists.intro
              refine ⟨fun u hu => ?_, ?_⟩
              · obtain ⟨hu0, hu1, hu2⟩ := hu
                unfold Oper.quietAt
                go_simp
                try rfl
              simp only [Act.put, List.setIfInBounds_toArray, List.set_cons_zero, List.set_cons_succ]
              go_big_quiet_on
              go_big_quiet_want
              apply Exists.intro
              refine ⟨fun u hu => ?_, ?_⟩
              · obtain ⟨hu0, hu1, hu2⟩ := hu
                unfold Oper.quietAt
                go_simp
                try rfl
              simp only [Act.put, List.setIfInBounds_toArray, List.set_cons_zero, List.set_cons_succ]
              go_big_quiet_on
              go_big_quiet_want
              go_big_quiet_op
              go_big_quiet_on
              go_big_quiet_want
              apply Exists.intro
              refine ⟨fun u hu => ?_, ?_⟩
              · obtain ⟨hu0, hu1, hu2⟩ := hu
                unfold Oper.quietAt
                go_simp
                try rfl
              simp only [Act.put, List.setIfInBounds_toArray, List.set_cons_zero, List.set_cons_succ]
              go_big_quiet_on
              go_big_quiet_want
              apply Exists.intro
              refine ⟨fun u hu => ?_, ?_⟩
              · obtain ⟨hu0, hu1, hu2⟩ := hu
                unfold Oper.quietAt
                go_simp
                try rfl
              simp only [Act.put, List.setIfInBounds_toArray, List.set_cons_zero, List.set_cons_succ]
              go_big_quiet_on
              go_big_quiet_want
              apply Exists.intro
              refine ⟨fun u hu => ?_, ?_⟩
              · obtain ⟨hu0, hu1, hu2⟩ := hu
                unfold Oper.quietAt
                go_simp
                try rfl
              simp only [Act.put, List.setIfInBounds_toArray, List.set_cons_zero, List.set_cons_succ]
              go_big_quiet_on
              go_big_quiet_want
              apply Exists.intro
              refine ⟨fun u hu => ?_, ?_⟩
              · obtain ⟨hu0, hu1, hu2⟩ := hu
                unfold Oper.quietAt
                go_simp
                try rfl
              simp only [Act.put, List.setIfInBounds_toArray, List.set_cons_zero, List.set_cons_succ]
              go_big_quiet_on
              refine wpQuiet_nil ?_
              rintro w2 ⟨r2, d0, d1⟩
              have hiY : i < Y.length := by rw [HYL.out]; exact hi
              have hjY : j < Y.length := by rw [HYL.out]; exact hj
              obtain ⟨g, c9, e9, hlo9, _, hgs, _, _⟩ := hrow.out.pos (n := n) (by rw [ivs_len]; exact HYL.out) (by omega)
              injection e9 with e9 _ e10
              subst e9 e10
              have hrow2 := (hrow.out.new r2).wide (Nat.le_refl _) r2.size
              have hb2 := hb.trans (r2.mono hsz)
              have z0 := hrow2.cellO hiY
              have z1 := hrow2.cellO hjY
              have hva := HWY.out _ (List.getElem_mem hiY)
              have hvb := HWY.out _ (List.getElem_mem hjY)
              obtain ⟨a, hae⟩ : ∃ a, a = Y[i] := ⟨_, rfl⟩
              obtain ⟨b, hbe⟩ : ∃ b, b = Y[j] := ⟨_, rfl⟩
              rw [← hae] at z0 hva HOK
              rw [← hbe] at z1 hvb HOK
              have wa := wf64 hva
              have wb := wf64 hvb
              obtain ⟨v, hv⟩ : ∃ v, excI a b true = v := ⟨_, rfl⟩
              have HX := Lib.hid hv
              rw [hv] at HOK
              have j0 : (0 : Int) ≤ (i : Int) := by omega
              have j1 : (0 : Int) ≤ (j : Int) := by omega
              have j2 : (i : Int) < (n : Int) := by omega
              have j3 : (j : Int) < (n : Int) := by omega
              have HROW2 := Lib.hid hrow2
              have HB2 := Lib.hid hb2
              have s2 := hb2.size
              clear hae hbe hv r2 hrow2 hb2 KE e0 e1
              go_wp2_with fail
              go_region_law (first
                | (go_simp; go_at_call 33; (with_reducible refine (specAfterDebate_any wa wb).mono ?_); rintro e w3 ⟨rfl, b3⟩; rw [HX.out]))
              all_goals
                have b4 : Below w2.heap.size w2 w3 := (by first | exact b3 | exact (Below.refl w2.heap.size w2).drew.trans b3)
                have HROW3 := Lib.hid ((HROW2.out.new b4).wide (Nat.le_refl _) b4.size)
                have HB4 := Lib.hid (HB2.out.trans (b4.mono s2))
                have g0 := nw_c b4 d0
                have g1 := nw_c b4 d1
                have y0 := nw_c b4 z0
                have y1 := nw_c b4 z1
                have f0 := HROW3.out.frozO (i := i)
                have f1 := HROW3.out.frozO (i := j)
                have hgne : ag ≠ g := by omega
                obtain ⟨W4, hW4⟩ : ∃ W4, w3.setCell ⟨g, i, none⟩ (.int .i64 (a + v)) = W4 := ⟨_, rfl⟩
                have r4 := (HROW3.out.setO (i := i) (v := .int .i64 (a + v)))
                rw [show (ivs Y).set i (.int .i64 (a + v)) = ivs (Y.set i (a + v)) by simp [ivs, List.map_set]] at r4
                have k1 : W4.cell? ⟨ag, ao + 1, none⟩ = some (.int .i64 (j : Int)) := by
                  rw [← hW4, World.cell?_of_block (Below.heap_setCell _ _ _ _ (by simpa using hgne))]; exact g1
                have s4 : W4.heap.size = w3.heap.size := by rw [← hW4]; simp [World.setCell]
                have B5 := HB4.out.setCell (p := ⟨g, i, none⟩) hlo9 (.int .i64 (a + v))
                rw [hW4] at r4 B5
                have k2 := r4.cellO (k := j) (by rw [List.length_set]; exact hjY)
                have f2 := r4.frozO (i := j)
                have HW4 := Lib.hid hW4
                have HR4 := Lib.hid r4
                have HB5 := Lib.hid B5
                have HS4 := Lib.hid s4
                have HOK2 := Lib.hid (show ivs (ratL Z (R.take (k + 1))) = (ivs (Y.set i (a + v))).set j (.int .i64 (b - v)) by rw [HOK.out]; simp [ivs, List.map_set])
                clear b3 b4 d0 d1 z0 z1 hW4 r4 B5 s4 g1
                go_upto_region 9 with fail
                rw [HW4.out]
                go_wp2_with fail
                go_roundw
                case rel => exact ⟨k + 1, by omega, by go_num, Lib.hid (by rw [HOK2.out]; exact HR4.out.setO.wide (Nat.le_refl _) (by rw [show (W4.setCell ⟨g, j, none⟩ (.int .i64 (b - v))).heap.size = W4.heap.size by simp [World.setCell], HS4.out]; exact Nat.le_refl _)), HB5.out.setCell hlo9 _⟩
                case measure => simp [intOf]; omega
      · have HN := Lib.hid (show ratL Z (R.take (k + 1)) = Y by rw [HS.out]; exact rat1_no (by rw [HYL.out]; simp [isRb, h2]))
        obtain ⟨m, hm⟩ : ∃ m, r.length = m := ⟨_, rfl⟩
        rw [hm] at h2 hxl hcx hle
        have h3 : ¬ ((m : Int) = 2) := by omega
        have h4 : ((m : Int) != 2) = true := by simpa using h3
        have KE := fun (u : World) (r : Below wr.heap.size wr u) => show Below wr.heap.size wr u ∧ True from ⟨r, trivial⟩
        clear hm h2 h3
        go_wp2_with fail
        refine wp_region_quiet (C := fun u => Below wr.heap.size wr u ∧ True) (by kernel_rfl) (by kernel_rfl) (KE _ (Below.refl _ _).drew) ?_
        rw [List.toList_toArray]
        go_big_quiet_want
        go_big_quiet_op
        go_big_quiet_on
        go_big_quiet_want
        apply Exists.intro
        refine ⟨fun u hu => ?_, ?_⟩
        · obtain ⟨hu0, hu1⟩ := hu
          unfold Oper.quietAt
          go_simp
          try rfl
        simp only [Act.put, List.setIfInBounds_toArray, List.set_cons_zero, List.set_cons_succ]
        go_big_quiet_on
        go_big_quiet_want
        apply Exists.intro
        refine ⟨fun u hu => ?_, ?_⟩
        · obtain ⟨hu0, hu1⟩ := hu
          unfold Oper.quietAt
          go_simp
          try rfl
        simp only [Act.put, List.setIfInBounds_toArray, List.set_cons_zero, List.set_cons_succ]
        go_big_quiet_on
        go_big_quiet_want
        go_big_quiet_op
        go_big_quiet_on
        repeat go_big_quiet_skip
        go_big_quiet_want
        apply Exists.intro
        refine ⟨fun u hu => ?_, ?_⟩
        · obtain ⟨hu0, hu1⟩ := hu
          unfold Oper.quietAt
          go_simp
          try rfl
        simp only [Act.put, List.setIfInBounds_toArray, List.set_cons_zero, List.set_cons_succ]
        go_big_quiet_on
        go_big_quiet_want
        go_big_quiet_op
        go_big_quiet_on
        repeat go_big_quiet_skip
        go_big_quiet_want
        apply Exists.intro
        refine ⟨fun u hu => ?_, ?_⟩
        · obtain ⟨hu0, hu1⟩ := hu
          unfold Oper.quietAt
          go_simp
          try rfl
        simp only [Act.put, List.setIfInBounds_toArray, List.set_cons_zero, List.set_cons_succ]
        go_big_quiet_on
        go_big_quiet_want
        go_big_quiet_op
        go_big_quiet_on
        repeat go_big_quiet_skip
        go_big_quiet_want
        apply Exists.intro
        refine ⟨fun u hu => ?_, ?_⟩
        · obtain ⟨hu0, hu1⟩ := hu
          unfold Oper.quietAt
          go_simp
          try rfl
        simp only [Act.put, List.setIfInBounds_toArray, List.set_cons_zero, List.set_cons_succ]
        go_big_quiet_on
        refine wpQuiet_nil ?_
        rintro u ⟨r2, _⟩
        have HR2 := Lib.hid (show Row u w.heap.size u.heap.size 3 (.slice A1 n c1) (ivs (ratL Z (R.take (k + 1)))) by rw [HN.out]; exact (hrow.out.new r2).wide (Nat.le_refl _) r2.size)
        have hb2 := hb.trans (r2.mono hsz)
        clear r2
        go_wp2_with fail
        go_roundw
        case rel => exact ⟨k + 1, by omega, by go_num, HR2, hb2⟩
        case measure => simp [intOf]; omega
    · have e : k = n' := by omega
      subst e
      have HT := Lib.hid (show R.take k = R from List.take_of_length_le (by rw [hl'.out]; exact Nat.le_refl _))
      rw [HT.out] at hrow
      go_wp2_with fail
      go_ret
      exact ⟨_, rfl, hrow.out, hb⟩
end Go.Proofs.Ytdpaoaoipnoiiaa
