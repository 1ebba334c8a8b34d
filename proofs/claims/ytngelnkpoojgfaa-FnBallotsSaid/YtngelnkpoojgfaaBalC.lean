/- Contracts of the code of chapter 16: isId, IsBallot, AreBallots, teamWithMore, choiceOf, countFor. Condition: the slice has at most 2^40 elements. -/
import Derived.Test.YtngelnkpoojgfaaBalM2
namespace Go.Proofs.Ytngelnkpoojgfaa
open Go.ChangeShapes Go.WideShapes Go.ChangeAt Go.RowKit
set_option maxRecDepth 100000
theorem isId_any {w : World} {a : Int} : Calls Try.prog 85 #[.int .i64 a] w (fun e w' => e = .returned (.bool (inr a 1 99)) ∧ w = w') := by
  go_enter Try.func85, Try.ntmps85
  go_wp2_with fail
  refine (inRange_any _ _ _ _).mono ?_
  rintro e w1 ⟨rfl, rfl⟩
  go_wp2_with fail
  go_ret
  exact ⟨rfl, rfl⟩
set_option maxHeartbeats 1000000 in
theorem impIsBallot_any {w : World} {a b c : Int} : Calls Try.prog 82 #[.agg #[.int .i64 a, .int .i64 b, .int .i64 c]] w (Tells (blB (a, b, c)) w) := by
  have hb1 := alloc_new' w (Obj.cells #[Value.int .i64 a, .int .i64 b, .int .i64 c] 51)
  by_cases h1 : inr a 1 99 = true
  · skip
    by_cases h2 : inr b 0 100 = true
    · skip
      by_cases h3 : inr c 0 100 = true
      · skip
        have HV := Lib.hid (show blB (a, b, c) = (b != c) by unfold blB; simp only [h1, h2, h3, Bool.true_and])
        have H1 := Lib.hid h1
        have H2 := Lib.hid h2
        have H3 := Lib.hid h3
        clear h1 h2 h3
        go_enter Try.func82, Try.ntmps82
        go_wp2_with fail
        refine (isId_any).mono ?_
        rintro e u ⟨rfl, rfl⟩
        rw [H1.out]
        go_wp2_with fail
        refine (inRange_any _ _ _ _).mono ?_
        rintro e u ⟨rfl, rfl⟩
        rw [H2.out]
        go_wp2_with fail
        refine (inRange_any _ _ _ _).mono ?_
        rintro e u ⟨rfl, rfl⟩
        rw [H3.out]
        go_wp2_with fail
        go_ret
        exact ⟨ret_b HV.out.symm, hb1⟩
      · have h3 : inr c 0 100 = false := by simpa using h3
        have HV := Lib.hid (show blB (a, b, c) = false by unfold blB; simp only [h1, h2, h3]; rfl)
        have H1 := Lib.hid h1
        have H2 := Lib.hid h2
        have H3 := Lib.hid h3
        clear h1 h2 h3
        go_enter Try.func82, Try.ntmps82
        go_wp2_with fail
        refine (isId_any).mono ?_
        rintro e u ⟨rfl, rfl⟩
        rw [H1.out]
        go_wp2_with fail
        refine (inRange_any _ _ _ _).mono ?_
        rintro e u ⟨rfl, rfl⟩
        rw [H2.out]
        go_wp2_with fail
        refine (inRange_any _ _ _ _).mono ?_
        rintro e u ⟨rfl, rfl⟩
        rw [H3.out]
        go_wp2_with fail
        go_ret
        exact ⟨ret_b HV.out.symm, hb1⟩
    · have h2 : inr b 0 100 = false := by simpa using h2
      have HV := Lib.hid (show blB (a, b, c) = false by unfold blB; simp only [h1, h2]; rfl)
      have H1 := Lib.hid h1
      have H2 := Lib.hid h2
      clear h1 h2
      go_enter Try.func82, Try.ntmps82
      go_wp2_with fail
      refine (isId_any).mono ?_
      rintro e u ⟨rfl, rfl⟩
      rw [H1.out]
      go_wp2_with fail
      refine (inRange_any _ _ _ _).mono ?_
      rintro e u ⟨rfl, rfl⟩
      rw [H2.out]
      go_wp2_with fail
      go_ret
      exact ⟨ret_b HV.out.symm, hb1⟩
  · have h1 : inr a 1 99 = false := by simpa using h1
    have HV := Lib.hid (show blB (a, b, c) = false by unfold blB; simp only [h1]; rfl)
    have H1 := Lib.hid h1
    clear h1
    go_enter Try.func82, Try.ntmps82
    go_wp2_with fail
    refine (isId_any).mono ?_
    rintro e u ⟨rfl, rfl⟩
    rw [H1.out]
    go_wp2_with fail
    go_ret
    exact ⟨ret_b HV.out.symm, hb1⟩
theorem bs_big {X : List T3} (h : 9 < X.length) : bsB X = false := by
  unfold bsB
  rw [decide_eq_false (show ¬ X.length ≤ 9 by omega), Bool.and_false]
set_option maxHeartbeats 4000000 in
theorem impAreBallots_any {w : World} {A : Option Addr} {n c : Nat} {X : List T3} (hl : Hid (X.length = n)) (hn : n ≤ 1099511627776) (hr : Rd w w.heap.size A (t3s X)) :
    Calls Try.prog 50 #[.slice A n c] w (Tells (bsB X) w) := by
  by_cases hbig : 9 < n
  · have HV := Lib.hid (bs_big (X := X) (by rw [hl.out]; exact hbig))
    have i1 : (9 : Int) < (n : Int) := by omega
    go_enter Try.func50, Try.ntmps50
    go_wp2_with fail
    go_ret
    exact ⟨ret_b HV.out.symm, Below.refl _ _⟩
  have i1 : ¬ (9 : Int) < (n : Int) := by omega
  go_enter Try.func50, Try.ntmps50
  go_wp2_with fail
  go_loopw [10] (fun i wr => ∃ k : Nat, k ≤ n ∧ i = .int .i64 k ∧ Hid ((List.range k).all (blAt X) = true) ∧ Below w.heap.size w wr) (fun i _ => n - (intOf i).toNat)
  case atStart => exact ⟨0, Nat.zero_le _, rfl, Lib.hid rfl, Below.refl _ _⟩
  case round =>
    obtain ⟨k, hk, rfl, ha, hb⟩ := hrel
    by_cases hlt : k < n
    · have hkz : k < X.length := by rw [hl.out]; exact hlt
      have hsz := hb.size
      have hrr := (hr.below hb).more hsz
      obtain ⟨ad, p, rfl, hp, hab, h0, h1, h2⟩ := t3_cells hrr hkz
      have i0 : (0 : Int) ≤ (k : Int) := by omega
      have i2 : (k : Int) < (n : Int) := by omega
      cases hx1 : blB X[k] with
      | false =>
        have HV := Lib.hid (bs_no hkz (blAt_0 hkz hx1))
        obtain ⟨x, hx⟩ : ∃ x, x = X[k] := ⟨_, rfl⟩
        rw [← hx] at h0 h1 h2 hx1
        have HX := Lib.hid (show blB (x.1, x.2.1, x.2.2) = false from hx1)
        obtain ⟨W1, hW, bx, hb1, hz⟩ := box3 wr 51 (.int .i64 x.1) (.int .i64 x.2.1) (.int .i64 x.2.2)
        have HW := Lib.hid hW
        have c0 := bx.cells3 (Below.refl _ _)
        have KE := fun (u : World) (q : Below W1.heap.size W1 u) => show Below W1.heap.size W1 u ∧ u.cell? ⟨wr.heap.size, 0, none⟩ = some (.int .i64 x.1) ∧ u.cell? ⟨wr.heap.size, 1, none⟩ = some (.int .i64 x.2.1) ∧ u.cell? ⟨wr.heap.size, 2, none⟩ = some (.int .i64 x.2.2) from ⟨q, bx.cells3 q⟩
        clear hx hx1 hW hz
        go_wp2_with fail
        rw [HW.out]
        refine wp_region_quiet (C := fun u => Below W1.heap.size W1 u ∧ u.cell? ⟨wr.heap.size, 0, none⟩ = some (.int .i64 x.1) ∧ u.cell? ⟨wr.heap.size, 1, none⟩ = some (.int .i64 x.2.1) ∧ u.cell? ⟨wr.heap.size, 2, none⟩ = some (.int .i64 x.2.2)) (by kernel_rfl) (by kernel_rfl) (KE _ (Below.refl W1.heap.size W1).drew) ?_
        rw [List.toList_toArray]
        go_big_quiet_want
        apply Exists.intro
        refine ⟨fun u hu => ?_, ?_⟩
        · obtain ⟨hu0, hu1, hu2, hu3⟩ := hu
          unfold Oper.quietAt
          go_simp
          try rfl
        simp only [Act.put, List.setIfInBounds_toArray, List.set_cons_zero, List.set_cons_succ]
        go_big_quiet_on
        go_big_quiet_want
        refine ⟨.bool false, fun u hu => ?_, ?_⟩
        · obtain ⟨hu0, hu1, hu2, hu3⟩ := hu
          unfold Oper.quietAt
          go_simp
          refine (impIsBallot_any).mono ?_
          rintro e u9 ⟨he, r9⟩
          rw [HX.out] at he
          exact ⟨he, KE _ (trans_new hu0 r9)⟩
        simp only [Act.put, List.setIfInBounds_toArray, List.set_cons_zero, List.set_cons_succ]
        go_big_quiet_on
        go_big_quiet_want
        apply Exists.intro
        refine ⟨fun u hu => ?_, ?_⟩
        · obtain ⟨hu0, hu1, hu2, hu3⟩ := hu
          unfold Oper.quietAt
          go_simp
          try rfl
        simp only [Act.put, List.setIfInBounds_toArray, List.set_cons_zero, List.set_cons_succ]
        go_big_quiet_on
        go_big_quiet_want
        go_big_quiet_op
        go_big_quiet_on
        repeat go_big_quiet_skip
        go_big_quiet_want
        apply Exists.intro
        refine ⟨fun u hu => ?_, ?_⟩
        · obtain ⟨hu0, hu1, hu2, hu3⟩ := hu
          unfold Oper.quietAt
          go_simp
          try rfl
        simp only [Act.put, List.setIfInBounds_toArray, List.set_cons_zero, List.set_cons_succ]
        go_big_quiet_on
        refine wpQuiet_nil ?_
        rintro u ⟨k9, _⟩
        go_wp2_with fail
        go_ret
        exact ⟨ret_b HV.out.symm, (hb.trans (hb1.mono hsz)).trans (k9.mono (Nat.le_trans hsz hb1.size))⟩
      | true =>
        by_cases hk0 : k = 0
        · subst hk0
          have HP := Lib.hid (all_snoc ha.out (blAt_1 hkz hx1))
          obtain ⟨x, hx⟩ : ∃ x, x = X[0] := ⟨_, rfl⟩
          rw [← hx] at h0 h1 h2 hx1
          have HX := Lib.hid (show blB (x.1, x.2.1, x.2.2) = true from hx1)
          obtain ⟨W1, hW, bx, hb1, hz⟩ := box3 wr 51 (.int .i64 x.1) (.int .i64 x.2.1) (.int .i64 x.2.2)
          have HW := Lib.hid hW
          have KE := fun (u : World) (q : Below W1.heap.size W1 u) => show Below W1.heap.size W1 u ∧ u.cell? ⟨wr.heap.size, 0, none⟩ = some (.int .i64 x.1) ∧ u.cell? ⟨wr.heap.size, 1, none⟩ = some (.int .i64 x.2.1) ∧ u.cell? ⟨wr.heap.size, 2, none⟩ = some (.int .i64 x.2.2) from ⟨q, bx.cells3 q⟩
          clear hx hx1 hW hz
          go_wp2_with fail
          rw [HW.out]
          refine wp_region_quiet (C := fun u => Below W1.heap.size W1 u ∧ u.cell? ⟨wr.heap.size, 0, none⟩ = some (.int .i64 x.1) ∧ u.cell? ⟨wr.heap.size, 1, none⟩ = some (.int .i64 x.2.1) ∧ u.cell? ⟨wr.heap.size, 2, none⟩ = some (.int .i64 x.2.2)) (by kernel_rfl) (by kernel_rfl) (KE _ (Below.refl W1.heap.size W1).drew) ?_
          rw [List.toList_toArray]
          go_big_quiet_want
          apply Exists.intro
          refine ⟨fun u hu => ?_, ?_⟩
          · obtain ⟨hu0, hu1, hu2, hu3⟩ := hu
            unfold Oper.quietAt
            go_simp
            try rfl
          simp only [Act.put, List.setIfInBounds_toArray, List.set_cons_zero, List.set_cons_succ]
          go_big_quiet_on
          go_big_quiet_want
          refine ⟨.bool true, fun u hu => ?_, ?_⟩
          · obtain ⟨hu0, hu1, hu2, hu3⟩ := hu
            unfold Oper.quietAt
            go_simp
            refine (impIsBallot_any).mono ?_
            rintro e u9 ⟨he, r9⟩
            rw [HX.out] at he
            exact ⟨he, KE _ (trans_new hu0 r9)⟩
          simp only [Act.put, List.setIfInBounds_toArray, List.set_cons_zero, List.set_cons_succ]
          go_big_quiet_on
          go_big_quiet_want
          apply Exists.intro
          refine ⟨fun u hu => ?_, ?_⟩
          · obtain ⟨hu0, hu1, hu2, hu3⟩ := hu
            unfold Oper.quietAt
            go_simp
            try rfl
          simp only [Act.put, List.setIfInBounds_toArray, List.set_cons_zero, List.set_cons_succ]
          go_big_quiet_on
          go_big_quiet_want
          go_big_quiet_op
          go_big_quiet_on
          go_big_quiet_want
          go_big_quiet_op
          go_big_quiet_on
          go_big_quiet_want
          apply Exists.intro
          refine ⟨fun u hu => ?_, ?_⟩
          · obtain ⟨hu0, hu1, hu2, hu3⟩ := hu
            unfold Oper.quietAt
            go_simp
            try rfl
          simp only [Act.put, List.setIfInBounds_toArray, List.set_cons_zero, List.set_cons_succ]
          go_big_quiet_on
          go_big_quiet_want
          go_big_quiet_op
          go_big_quiet_on
          repeat go_big_quiet_skip
          go_big_quiet_want
          apply Exists.intro
          refine ⟨fun u hu => ?_, ?_⟩
          · obtain ⟨hu0, hu1, hu2, hu3⟩ := hu
            unfold Oper.quietAt
            go_simp
            try rfl
          simp only [Act.put, List.setIfInBounds_toArray, List.set_cons_zero, List.set_cons_succ]
          go_big_quiet_on
          go_big_quiet_want
          apply Exists.intro
          refine ⟨fun u hu => ?_, ?_⟩
          · obtain ⟨hu0, hu1, hu2, hu3⟩ := hu
            unfold Oper.quietAt
            go_simp
            try rfl
          simp only [Act.put, List.setIfInBounds_toArray, List.set_cons_zero, List.set_cons_succ]
          go_big_quiet_on
          refine wpQuiet_nil ?_
          rintro u ⟨k9, _⟩
          go_wp2_with fail
          go_roundw
          case rel => exact ⟨1, by omega, by go_num, HP, (hb.trans (hb1.mono hsz)).trans (k9.mono (Nat.le_trans hsz hb1.size))⟩
          case measure => simp [intOf]; omega
        · obtain ⟨j, hj⟩ : ∃ j, k = j + 1 := ⟨k - 1, by omega⟩
          have hk1 : j < X.length := by omega
          have j0 : (0 : Int) ≤ (j : Int) := by omega
          have j1 : (j : Int) < (n : Int) := by omega
          have hwj : IntKind.i64.wrap ((k : Int) - 1) = (j : Int) := (IntWalk.i64_in ((k : Int) - 1) (by omega)).trans (by omega)
          have hkp : 0 < k := by omega
          have hkp' : (0 : Int) < (k : Int) := by omega
          have HA := Lib.hid (blAt_2 hkz hj hk1 hx1)
          obtain ⟨ad', p', e', hp', hab', h0', _, _⟩ := t3_cells hrr hk1
          injection e' with e'
          subst e'
          obtain ⟨x, hx⟩ : ∃ x, x = X[k] := ⟨_, rfl⟩
          obtain ⟨y, hy⟩ : ∃ y, y = X[j] := ⟨_, rfl⟩
          rw [← hx] at h0 h1 h2 hx1 HA
          rw [← hy] at h0' HA
          have HX := Lib.hid (show blB (x.1, x.2.1, x.2.2) = true from hx1)
          have dk : decide ((0 : Int) < (k : Int)) = true := decide_eq_true hkp'
          obtain ⟨W1, hW, bx, hb1, hz⟩ := box3 wr 51 (.int .i64 x.1) (.int .i64 x.2.1) (.int .i64 x.2.2)
          have HW := Lib.hid hW
          have KE := fun (u : World) (q : Below W1.heap.size W1 u) => show Below W1.heap.size W1 u ∧ u.cell? ⟨wr.heap.size, 0, none⟩ = some (.int .i64 x.1) ∧ u.cell? ⟨wr.heap.size, 1, none⟩ = some (.int .i64 x.2.1) ∧ u.cell? ⟨wr.heap.size, 2, none⟩ = some (.int .i64 x.2.2) ∧ u.cell? p' = some (.int .i64 y.1) from ⟨q, (bx.cells3 q).1, (bx.cells3 q).2.1, (bx.cells3 q).2.2, cell_nw (hb1.trans (q.mono hb1.size)) h0'⟩
          clear hx hx1 hy hj hW hz
          by_cases hxy : y.1 < x.1
          · have HP := Lib.hid (all_snoc ha.out (HA.out.trans (decide_eq_true hxy)))
            have d1 : decide (x.1 ≤ y.1) = false := decide_eq_false (by omega)
            go_wp2_with fail
            rw [HW.out]
            refine wp_region_quiet (C := fun u => Below W1.heap.size W1 u ∧ u.cell? ⟨wr.heap.size, 0, none⟩ = some (.int .i64 x.1) ∧ u.cell? ⟨wr.heap.size, 1, none⟩ = some (.int .i64 x.2.1) ∧ u.cell? ⟨wr.heap.size, 2, none⟩ = some (.int .i64 x.2.2) ∧ u.cell? p' = some (.int .i64 y.1)) (by kernel_rfl) (by kernel_rfl) (KE _ (Below.refl W1.heap.size W1).drew) ?_
            rw [List.toList_toArray]
            go_big_quiet_want
            apply Exists.intro
            refine ⟨fun u hu => ?_, ?_⟩
            · obtain ⟨hu0, hu1, hu2, hu3, hu4⟩ := hu
              unfold Oper.quietAt
              go_simp
              try rfl
            simp only [Act.put, List.setIfInBounds_toArray, List.set_cons_zero, List.set_cons_succ]
            go_big_quiet_on
            go_big_quiet_want
            refine ⟨.bool true, fun u hu => ?_, ?_⟩
            · obtain ⟨hu0, hu1, hu2, hu3, hu4⟩ := hu
              unfold Oper.quietAt
              go_simp
              refine (impIsBallot_any).mono ?_
              rintro e u9 ⟨he, r9⟩
              rw [HX.out] at he
              exact ⟨he, KE _ (trans_new hu0 r9)⟩
            simp only [Act.put, List.setIfInBounds_toArray, List.set_cons_zero, List.set_cons_succ]
            go_big_quiet_on
            go_big_quiet_want
            apply Exists.intro
            refine ⟨fun u hu => ?_, ?_⟩
            · obtain ⟨hu0, hu1, hu2, hu3, hu4⟩ := hu
              unfold Oper.quietAt
              go_simp
              try rfl
            simp only [Act.put, List.setIfInBounds_toArray, List.set_cons_zero, List.set_cons_succ]
            go_big_quiet_on
            go_big_quiet_want
            go_big_quiet_op
            go_big_quiet_on
            go_big_quiet_want
            go_big_quiet_op
            go_big_quiet_on
            go_big_quiet_want
            apply Exists.intro
            refine ⟨fun u hu => ?_, ?_⟩
            · obtain ⟨hu0, hu1, hu2, hu3, hu4⟩ := hu
              unfold Oper.quietAt
              go_simp
              try rfl
            simp only [Act.put, List.setIfInBounds_toArray, List.set_cons_zero, List.set_cons_succ]
            go_big_quiet_on
            go_big_quiet_want
            go_big_quiet_op
            go_big_quiet_on
            go_big_quiet_want
            apply Exists.intro
            refine ⟨fun u hu => ?_, ?_⟩
            · obtain ⟨hu0, hu1, hu2, hu3, hu4⟩ := hu
              unfold Oper.quietAt
              go_simp
              try rfl
            simp only [Act.put, List.setIfInBounds_toArray, List.set_cons_zero, List.set_cons_succ]
            go_big_quiet_on
            go_big_quiet_want
            apply Exists.intro
            refine ⟨fun u hu => ?_, ?_⟩
            · obtain ⟨hu0, hu1, hu2, hu3, hu4⟩ := hu
              unfold Oper.quietAt
              go_simp
              try rfl
            simp only [Act.put, List.setIfInBounds_toArray, List.set_cons_zero, List.set_cons_succ]
            go_big_quiet_on
            go_big_quiet_want
            go_big_quiet_op
            go_big_quiet_on
            go_big_quiet_want
            go_big_quiet_op
            go_big_quiet_on
            go_big_quiet_want
            apply Exists.intro
            refine ⟨fun u hu => ?_, ?_⟩
            · obtain ⟨hu0, hu1, hu2, hu3, hu4⟩ := hu
              unfold Oper.quietAt
              go_simp
              try rfl
            simp only [Act.put, List.setIfInBounds_toArray, List.set_cons_zero, List.set_cons_succ]
            go_big_quiet_on
            go_big_quiet_want
            apply Exists.intro
            refine ⟨fun u hu => ?_, ?_⟩
            · obtain ⟨hu0, hu1, hu2, hu3, hu4⟩ := hu
              unfold Oper.quietAt
              go_simp
              try rfl
            simp only [Act.put, List.setIfInBounds_toArray, List.set_cons_zero, List.set_cons_succ]
            go_big_quiet_on
            go_big_quiet_want
            apply Exists.intro
            refine ⟨fun u hu => ?_, ?_⟩
            · obtain ⟨hu0, hu1, hu2, hu3, hu4⟩ := hu
              unfold Oper.quietAt
              go_simp
              try rfl
            simp only [Act.put, List.setIfInBounds_toArray, List.set_cons_zero, List.set_cons_succ]
            go_big_quiet_on
            go_big_quiet_want
            apply Exists.intro
            refine ⟨fun u hu => ?_, ?_⟩
            · obtain ⟨hu0, hu1, hu2, hu3, hu4⟩ := hu
              unfold Oper.quietAt
              go_simp
              try rfl
            simp only [Act.put, List.setIfInBounds_toArray, List.set_cons_zero, List.set_cons_succ]
            go_big_quiet_on
            go_big_quiet_want
            apply Exists.intro
            refine ⟨fun u hu => ?_, ?_⟩
            · obtain ⟨hu0, hu1, hu2, hu3, hu4⟩ := hu
              unfold Oper.quietAt
              go_simp
              try rfl
            simp only [Act.put, List.setIfInBounds_toArray, List.set_cons_zero, List.set_cons_succ]
            go_big_quiet_on
            go_big_quiet_want
            apply Exists.intro
            refine ⟨fun u hu => ?_, ?_⟩
            · obtain ⟨hu0, hu1, hu2, hu3, hu4⟩ := hu
              unfold Oper.quietAt
              go_simp
              try rfl
            simp only [Act.put, List.setIfInBounds_toArray, List.set_cons_zero, List.set_cons_succ]
            go_big_quiet_on
            go_big_quiet_want
            apply Exists.intro
            refine ⟨fun u hu => ?_, ?_⟩
            · obtain ⟨hu0, hu1, hu2, hu3, hu4⟩ := hu
              unfold Oper.quietAt
              go_simp
              try rfl
            simp only [Act.put, List.setIfInBounds_toArray, List.set_cons_zero, List.set_cons_succ]
            go_big_quiet_on
            refine wpQuiet_nil ?_
            rintro u ⟨k9, _⟩
            go_wp2_with fail
            go_roundw
            case rel => exact ⟨k + 1, by omega, by go_num, HP, (hb.trans (hb1.mono hsz)).trans (k9.mono (Nat.le_trans hsz hb1.size))⟩
            case measure => simp [intOf]; omega
          · have HV := Lib.hid (bs_no hkz (HA.out.trans (decide_eq_false hxy)))
            have d1 : decide (x.1 ≤ y.1) = true := decide_eq_true (by omega)
            go_wp2_with fail
            rw [HW.out]
            refine wp_region_quiet (C := fun u => Below W1.heap.size W1 u ∧ u.cell? ⟨wr.heap.size, 0, none⟩ = some (.int .i64 x.1) ∧ u.cell? ⟨wr.heap.size, 1, none⟩ = some (.int .i64 x.2.1) ∧ u.cell? ⟨wr.heap.size, 2, none⟩ = some (.int .i64 x.2.2) ∧ u.cell? p' = some (.int .i64 y.1)) (by kernel_rfl) (by kernel_rfl) (KE _ (Below.refl W1.heap.size W1).drew) ?_
            rw [List.toList_toArray]
            go_big_quiet_want
            apply Exists.intro
            refine ⟨fun u hu => ?_, ?_⟩
            · obtain ⟨hu0, hu1, hu2, hu3, hu4⟩ := hu
              unfold Oper.quietAt
              go_simp
              try rfl
            simp only [Act.put, List.setIfInBounds_toArray, List.set_cons_zero, List.set_cons_succ]
            go_big_quiet_on
            go_big_quiet_want
            refine ⟨.bool true, fun u hu => ?_, ?_⟩
            · obtain ⟨hu0, hu1, hu2, hu3, hu4⟩ := hu
              unfold Oper.quietAt
              go_simp
              refine (impIsBallot_any).mono ?_
              rintro e u9 ⟨he, r9⟩
              rw [HX.out] at he
              exact ⟨he, KE _ (trans_new hu0 r9)⟩
            simp only [Act.put, List.setIfInBounds_toArray, List.set_cons_zero, List.set_cons_succ]
            go_big_quiet_on
            go_big_quiet_want
            apply Exists.intro
            refine ⟨fun u hu => ?_, ?_⟩
            · obtain ⟨hu0, hu1, hu2, hu3, hu4⟩ := hu
              unfold Oper.quietAt
              go_simp
              try rfl
            simp only [Act.put, List.setIfInBounds_toArray, List.set_cons_zero, List.set_cons_succ]
            go_big_quiet_on
            go_big_quiet_want
            go_big_quiet_op
            go_big_quiet_on
            go_big_quiet_want
            go_big_quiet_op
            go_big_quiet_on
            go_big_quiet_want
            apply Exists.intro
            refine ⟨fun u hu => ?_, ?_⟩
            · obtain ⟨hu0, hu1, hu2, hu3, hu4⟩ := hu
              unfold Oper.quietAt
              go_simp
              try rfl
            simp only [Act.put, List.setIfInBounds_toArray, List.set_cons_zero, List.set_cons_succ]
            go_big_quiet_on
            go_big_quiet_want
            go_big_quiet_op
            go_big_quiet_on
            go_big_quiet_want
            apply Exists.intro
            refine ⟨fun u hu => ?_, ?_⟩
            · obtain ⟨hu0, hu1, hu2, hu3, hu4⟩ := hu
              unfold Oper.quietAt
              go_simp
              try rfl
            simp only [Act.put, List.setIfInBounds_toArray, List.set_cons_zero, List.set_cons_succ]
            go_big_quiet_on
            go_big_quiet_want
            apply Exists.intro
            refine ⟨fun u hu => ?_, ?_⟩
            · obtain ⟨hu0, hu1, hu2, hu3, hu4⟩ := hu
              unfold Oper.quietAt
              go_simp
              try rfl
            simp only [Act.put, List.setIfInBounds_toArray, List.set_cons_zero, List.set_cons_succ]
            go_big_quiet_on
            go_big_quiet_want
            go_big_quiet_op
            go_big_quiet_on
            go_big_quiet_want
            go_big_quiet_op
            go_big_quiet_on
            go_big_quiet_want
            apply Exists.intro
            refine ⟨fun u hu => ?_, ?_⟩
            · obtain ⟨hu0, hu1, hu2, hu3, hu4⟩ := hu
              unfold Oper.quietAt
              go_simp
              try rfl
            simp only [Act.put, List.setIfInBounds_toArray, List.set_cons_zero, List.set_cons_succ]
            go_big_quiet_on
            go_big_quiet_want
            apply Exists.intro
            refine ⟨fun u hu => ?_, ?_⟩
            · obtain ⟨hu0, hu1, hu2, hu3, hu4⟩ := hu
              unfold Oper.quietAt
              go_simp
              try rfl
            simp only [Act.put, List.setIfInBounds_toArray, List.set_cons_zero, List.set_cons_succ]
            go_big_quiet_on
            go_big_quiet_want
            apply Exists.intro
            refine ⟨fun u hu => ?_, ?_⟩
            · obtain ⟨hu0, hu1, hu2, hu3, hu4⟩ := hu
              unfold Oper.quietAt
              go_simp
              try rfl
            simp only [Act.put, List.setIfInBounds_toArray, List.set_cons_zero, List.set_cons_succ]
            go_big_quiet_on
            go_big_quiet_want
            apply Exists.intro
            refine ⟨fun u hu => ?_, ?_⟩
            · obtain ⟨hu0, hu1, hu2, hu3, hu4⟩ := hu
              unfold Oper.quietAt
              go_simp
              try rfl
            simp only [Act.put, List.setIfInBounds_toArray, List.set_cons_zero, List.set_cons_succ]
            go_big_quiet_on
            go_big_quiet_want
            apply Exists.intro
            refine ⟨fun u hu => ?_, ?_⟩
            · obtain ⟨hu0, hu1, hu2, hu3, hu4⟩ := hu
              unfold Oper.quietAt
              go_simp
              try rfl
            simp only [Act.put, List.setIfInBounds_toArray, List.set_cons_zero, List.set_cons_succ]
            go_big_quiet_on
            go_big_quiet_want
            apply Exists.intro
            refine ⟨fun u hu => ?_, ?_⟩
            · obtain ⟨hu0, hu1, hu2, hu3, hu4⟩ := hu
              unfold Oper.quietAt
              go_simp
              try rfl
            simp only [Act.put, List.setIfInBounds_toArray, List.set_cons_zero, List.set_cons_succ]
            go_big_quiet_on
            go_big_quiet_want
            apply Exists.intro
            refine ⟨fun u hu => ?_, ?_⟩
            · obtain ⟨hu0, hu1, hu2, hu3, hu4⟩ := hu
              unfold Oper.quietAt
              go_simp
              try rfl
            simp only [Act.put, List.setIfInBounds_toArray, List.set_cons_zero, List.set_cons_succ]
            go_big_quiet_on
            refine wpQuiet_nil ?_
            rintro u ⟨k9, _⟩
            go_wp2_with fail
            go_ret
            exact ⟨ret_b HV.out.symm, (hb.trans (hb1.mono hsz)).trans (k9.mono (Nat.le_trans hsz hb1.size))⟩
    · have e : k = n := by omega
      subst e
      have HT := Lib.hid (show bsB X = true by
        unfold bsB
        rw [hl.out, ha.out, Bool.true_and]
        exact decide_eq_true (by omega))
      go_wp2_with fail
      go_ret
      exact ⟨ret_b HT.out.symm, hb⟩
/-- Which of two counts is more. -/
def morN (p q : Int) : Int := if q < p then 1 else if p < q then 2 else 0
theorem teamMore_any {w : World} {p q : Int} : Calls Try.prog 76 #[.agg #[.int .i64 p, .int .i64 q]] w (fun e w' => e = .returned (.int .i64 (morN p q)) ∧ Below w.heap.size w w') := by
  have hb1 := alloc_new' w (Obj.cells #[Value.int .i64 p, .int .i64 q] 78)
  by_cases h1 : q < p
  · have HV := Lib.hid (show morN p q = 1 from if_pos h1)
    go_enter Try.func76, Try.ntmps76
    go_wp2_with fail
    go_ret
    exact ⟨ret_i HV.out.symm, hb1⟩
  · by_cases h2 : p < q
    · have HV := Lib.hid (show morN p q = 2 by unfold morN; rw [if_neg h1, if_pos h2])
      go_enter Try.func76, Try.ntmps76
      go_wp2_with fail
      go_ret
      exact ⟨ret_i HV.out.symm, hb1⟩
    · have HV := Lib.hid (show morN p q = 0 by unfold morN; rw [if_neg h1, if_neg h2])
      go_enter Try.func76, Try.ntmps76
      go_wp2_with fail
      go_ret
      exact ⟨ret_i HV.out.symm, hb1⟩
theorem choiceOf_any {w : World} {a b c : Int} (hbc : b ≠ c) : Calls Try.prog 77 #[.agg #[.int .i64 a, .int .i64 b, .int .i64 c]] w (fun e w' => e = .returned (.int .i64 (ofB (a, b, c))) ∧ Below w.heap.size w w') := by
  have hb1 := alloc_new' w (Obj.cells #[Value.int .i64 a, .int .i64 b, .int .i64 c] 51)
  have HV := Lib.hid (show morN b c = ofB (a, b, c) by
    unfold morN ofB
    by_cases h : c < b
    · rw [if_pos h, if_pos h]
    · rw [if_neg h, if_neg h, if_pos (by omega)])
  go_enter Try.func77, Try.ntmps77
  go_wp2_with fail
  refine (teamMore_any).mono ?_
  rintro e w1 ⟨rfl, r⟩
  go_wp2_with fail
  go_ret
  exact ⟨ret_i HV.out, hb1.trans (r.mono hb1.size)⟩
def cntF (p q t : Int) : Int := if t = 1 then p else if t = 2 then q else 0
theorem countFor_any {w : World} {p q t : Int} : Calls Try.prog 83 #[.agg #[.int .i64 p, .int .i64 q], .int .i64 t] w (fun e w' => e = .returned (.int .i64 (cntF p q t)) ∧ Below w.heap.size w w') := by
  have hb1 := alloc_new' w (Obj.cells #[Value.int .i64 p, .int .i64 q] 78)
  by_cases h1 : t = 1
  · subst h1
    have HI := Lib.hid (show inr 1 1 2 = true by decide)
    go_enter Try.func83, Try.ntmps83
    go_wp2_with fail
    refine (inRange_any _ _ _ _).mono ?_
    rintro e w1 ⟨rfl, rfl⟩
    rw [HI.out]
    go_wp2_with fail
    go_ret
    exact ⟨rfl, hb1⟩
  · by_cases h2 : t = 2
    · subst h2
      have HI := Lib.hid (show inr 2 1 2 = true by decide)
      go_enter Try.func83, Try.ntmps83
      go_wp2_with fail
      refine (inRange_any _ _ _ _).mono ?_
      rintro e w1 ⟨rfl, rfl⟩
      rw [HI.out]
      go_wp2_with fail
      go_ret
      exact ⟨rfl, hb1⟩
    · have HV := Lib.hid (show cntF p q t = 0 by unfold cntF; rw [if_neg h1, if_neg h2])
      have HI := Lib.hid (show inr t 1 2 = false by rw [← Bool.not_eq_true]; intro h; have := inrI h; omega)
      go_enter Try.func83, Try.ntmps83
      go_wp2_with fail
      refine (inRange_any _ _ _ _).mono ?_
      rintro e w1 ⟨rfl, rfl⟩
      rw [HI.out]
      go_wp2_with fail
      go_ret
      exact ⟨ret_i HV.out.symm, hb1⟩
end Go.Proofs.Ytngelnkpoojgfaa
