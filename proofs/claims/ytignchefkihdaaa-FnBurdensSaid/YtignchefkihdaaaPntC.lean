/- Contracts of the code of chapter 13: isId, isPoint, ArePoints, worthOf, Won. Condition: the slice has at most 2^40 elements. -/
import Derived.Test.YtignchefkihdaaaPntM
namespace Go.Proofs.Ytignchefkihdaaa
open Go.ChangeShapes Go.WideShapes Go.ChangeAt Go.RowKit
set_option maxRecDepth 100000
theorem isId_any {w : World} {a : Int} : Calls Try.prog 139 #[.int .i64 a] w (fun e w' => e = .returned (.bool (inr a 1 99)) ∧ w = w') := by
  go_enter Try.func139, Try.ntmps139
  go_wp2_with fail
  refine (inRange_any _ _ _ _).mono ?_
  rintro e w1 ⟨rfl, rfl⟩
  go_wp2_with fail
  go_ret
  exact ⟨rfl, rfl⟩
set_option maxHeartbeats 1000000 in
theorem isPoint_any {w : World} {a b c : Int} : Calls Try.prog 93 #[.agg #[.int .i64 a, .int .i64 b, .int .i64 c]] w (Tells (ptOk (a, b, c)) w) := by
  have hb1 := alloc_new' w (Obj.cells #[Value.int .i64 a, .int .i64 b, .int .i64 c] 48)
  by_cases h1 : inr a 1 99 = true
  · skip
    by_cases h2 : inr b 1 2 = true
    · skip
      have HV := Lib.hid (show ptOk (a, b, c) = inr c 0 4 by unfold ptOk; simp only [h1, h2, Bool.true_and])
      have H1 := Lib.hid h1
      have H2 := Lib.hid h2
      clear h1 h2
      obtain ⟨r, hr⟩ : ∃ r, inr c 0 4 = r := ⟨_, rfl⟩
      have HR := Lib.hid hr
      rw [hr] at HV
      clear hr
      go_enter Try.func93, Try.ntmps93
      go_wp2_with fail
      refine (isId_any).mono ?_
      rintro e u ⟨rfl, rfl⟩
      rw [H1.out]
      go_wp2_with fail
      refine (inRange_any _ _ _ _).mono ?_
      rintro e u ⟨rfl, rfl⟩
      rw [H2.out]
      go_wp2_with fail
      refine (inRange_any _ _ _ _).mono ?_
      rintro e u ⟨rfl, rfl⟩
      rw [HR.out]
      go_wp2_with fail
      go_ret
      exact ⟨ret_b HV.out.symm, hb1⟩
    · have h2 : inr b 1 2 = false := by simpa using h2
      have HV := Lib.hid (show ptOk (a, b, c) = false by unfold ptOk; simp only [h1, h2]; rfl)
      have H1 := Lib.hid h1
      have H2 := Lib.hid h2
      clear h1 h2
      go_enter Try.func93, Try.ntmps93
      go_wp2_with fail
      refine (isId_any).mono ?_
      rintro e u ⟨rfl, rfl⟩
      rw [H1.out]
      go_wp2_with fail
      refine (inRange_any _ _ _ _).mono ?_
      rintro e u ⟨rfl, rfl⟩
      rw [H2.out]
      go_wp2_with fail
      go_ret
      exact ⟨ret_b HV.out.symm, hb1⟩
  · have h1 : inr a 1 99 = false := by simpa using h1
    have HV := Lib.hid (show ptOk (a, b, c) = false by unfold ptOk; simp only [h1]; rfl)
    have H1 := Lib.hid h1
    clear h1
    go_enter Try.func93, Try.ntmps93
    go_wp2_with fail
    refine (isId_any).mono ?_
    rintro e u ⟨rfl, rfl⟩
    rw [H1.out]
    go_wp2_with fail
    go_ret
    exact ⟨ret_b HV.out.symm, hb1⟩
theorem pt_big {X : List T3} (h : 30 < X.length) : ptB X = false := by
  unfold ptB
  rw [decide_eq_false (show ¬ X.length ≤ 30 by omega), Bool.and_false]
set_option maxHeartbeats 4000000 in
theorem impArePoints_any {w : World} {A : Option Addr} {n c : Nat} {X : List T3} (hl : Hid (X.length = n)) (hn : n ≤ 1099511627776) (hr : Rd w w.heap.size A (t3s X)) :
    Calls Try.prog 27 #[.slice A n c] w (Tells (ptB X) w) := by
  by_cases hbig : 30 < n
  · have HV := Lib.hid (pt_big (X := X) (by rw [hl.out]; exact hbig))
    have i1 : (30 : Int) < (n : Int) := by omega
    go_enter Try.func27, Try.ntmps27
    go_wp2_with fail
    go_ret
    exact ⟨ret_b HV.out.symm, Below.refl _ _⟩
  have i1 : ¬ (30 : Int) < (n : Int) := by omega
  go_enter Try.func27, Try.ntmps27
  go_wp2_with fail
  go_loopw [10] (fun i wr => ∃ k : Nat, k ≤ n ∧ i = .int .i64 k ∧ Hid ((List.range k).all (ptAt X) = true) ∧ Below w.heap.size w wr) (fun i _ => n - (intOf i).toNat)
  case atStart => exact ⟨0, Nat.zero_le _, rfl, Lib.hid rfl, Below.refl _ _⟩
  case round =>
    obtain ⟨k, hk, rfl, ha, hb⟩ := hrel
    by_cases hlt : k < n
    · have hkz : k < X.length := by rw [hl.out]; exact hlt
      have hsz := hb.size
      have hrr := (hr.below hb).more hsz
      obtain ⟨ad, p, rfl, hp, hab, h0, h1, h2⟩ := t3_cells hrr hkz
      have i0 : (0 : Int) ≤ (k : Int) := by omega
      have i2 : (k : Int) < (n : Int) := by omega
      cases hx1 : ptOk X[k] with
      | false =>
        have HV := Lib.hid (pt_no hkz (ptAt_0 hkz hx1))
        obtain ⟨x, hx⟩ : ∃ x, x = X[k] := ⟨_, rfl⟩
        rw [← hx] at h0 h1 h2 hx1
        have HX := Lib.hid (show ptOk (x.1, x.2.1, x.2.2) = false from hx1)
        obtain ⟨W1, hW, bx, hb1, hz⟩ := box3 wr 48 (.int .i64 x.1) (.int .i64 x.2.1) (.int .i64 x.2.2)
        have HW := Lib.hid hW
        have c0 := bx.cells3 (Below.refl _ _)
        have KE := fun (u : World) (q : Below W1.heap.size W1 u) => show Below W1.heap.size W1 u ∧ u.cell? ⟨wr.heap.size, 0, none⟩ = some (.int .i64 x.1) ∧ u.cell? ⟨wr.heap.size, 1, none⟩ = some (.int .i64 x.2.1) ∧ u.cell? ⟨wr.heap.size, 2, none⟩ = some (.int .i64 x.2.2) from ⟨q, bx.cells3 q⟩
        clear hx hx1 hW hz
        go_wp2_with fail
        rw [HW.out]
        refine wp_region_quiet (C := fun u => Below W1.heap.size W1 u ∧ u.cell? ⟨wr.heap.size, 0, none⟩ = some (.int .i64 x.1) ∧ u.cell? ⟨wr.heap.size, 1, none⟩ = some (.int .i64 x.2.1) ∧ u.cell? ⟨wr.heap.size, 2, none⟩ = some (.int .i64 x.2.2)) (by kernel_rfl) (by kernel_rfl) (KE _ (Below.refl W1.heap.size W1).drew) ?_
        rw [List.toList_toArray]
        go_big_quiet_want
        apply Exists.intro
        refine ⟨fun u hu => ?_, ?_⟩
        · obtain ⟨hu0, hu1, hu2, hu3⟩ := hu
          unfold Oper.quietAt
          go_simp
          try rfl
        simp only [Act.put, List.setIfInBounds_toArray, List.set_cons_zero, List.set_cons_succ]
        go_big_quiet_on
        go_big_quiet_want
        refine ⟨.bool false, fun u hu => ?_, ?_⟩
        · obtain ⟨hu0, hu1, hu2, hu3⟩ := hu
          unfold Oper.quietAt
          go_simp
          refine (isPoint_any).mono ?_
          rintro e u9 ⟨he, r9⟩
          rw [HX.out] at he
          exact ⟨he, KE _ (trans_new hu0 r9)⟩
        simp only [Act.put, List.setIfInBounds_toArray, List.set_cons_zero, List.set_cons_succ]
        go_big_quiet_on
        go_big_quiet_want
        apply Exists.intro
        refine ⟨fun u hu => ?_, ?_⟩
        · obtain ⟨hu0, hu1, hu2, hu3⟩ := hu
          unfold Oper.quietAt
          go_simp
          try rfl
        simp only [Act.put, List.setIfInBounds_toArray, List.set_cons_zero, List.set_cons_succ]
        go_big_quiet_on
        go_big_quiet_want
        go_big_quiet_op
        go_big_quiet_on
        repeat go_big_quiet_skip
        go_big_quiet_want
        apply Exists.intro
        refine ⟨fun u hu => ?_, ?_⟩
        · obtain ⟨hu0, hu1, hu2, hu3⟩ := hu
          unfold Oper.quietAt
          go_simp
          try rfl
        simp only [Act.put, List.setIfInBounds_toArray, List.set_cons_zero, List.set_cons_succ]
        go_big_quiet_on
        refine wpQuiet_nil ?_
        rintro u ⟨k9, _⟩
        go_wp2_with fail
        go_ret
        exact ⟨ret_b HV.out.symm, (hb.trans (hb1.mono hsz)).trans (k9.mono (Nat.le_trans hsz hb1.size))⟩
      | true =>
        by_cases hk0 : k = 0
        · subst hk0
          have HP := Lib.hid (pt_snoc ha.out (ptAt_1 hkz hx1))
          obtain ⟨x, hx⟩ : ∃ x, x = X[0] := ⟨_, rfl⟩
          rw [← hx] at h0 h1 h2 hx1
          have HX := Lib.hid (show ptOk (x.1, x.2.1, x.2.2) = true from hx1)
          obtain ⟨W1, hW, bx, hb1, hz⟩ := box3 wr 48 (.int .i64 x.1) (.int .i64 x.2.1) (.int .i64 x.2.2)
          have HW := Lib.hid hW
          have KE := fun (u : World) (q : Below W1.heap.size W1 u) => show Below W1.heap.size W1 u ∧ u.cell? ⟨wr.heap.size, 0, none⟩ = some (.int .i64 x.1) ∧ u.cell? ⟨wr.heap.size, 1, none⟩ = some (.int .i64 x.2.1) ∧ u.cell? ⟨wr.heap.size, 2, none⟩ = some (.int .i64 x.2.2) from ⟨q, bx.cells3 q⟩
          clear hx hx1 hW hz
          go_wp2_with fail
          rw [HW.out]
          refine wp_region_quiet (C := fun u => Below W1.heap.size W1 u ∧ u.cell? ⟨wr.heap.size, 0, none⟩ = some (.int .i64 x.1) ∧ u.cell? ⟨wr.heap.size, 1, none⟩ = some (.int .i64 x.2.1) ∧ u.cell? ⟨wr.heap.size, 2, none⟩ = some (.int .i64 x.2.2)) (by kernel_rfl) (by kernel_rfl) (KE _ (Below.refl W1.heap.size W1).drew) ?_
          rw [List.toList_toArray]
          go_big_quiet_want
          apply Exists.intro
          refine ⟨fun u hu => ?_, ?_⟩
          · obtain ⟨hu0, hu1, hu2, hu3⟩ := hu
            unfold Oper.quietAt
            go_simp
            try rfl
          simp only [Act.put, List.setIfInBounds_toArray, List.set_cons_zero, List.set_cons_succ]
          go_big_quiet_on
          go_big_quiet_want
          refine ⟨.bool true, fun u hu => ?_, ?_⟩
          · obtain ⟨hu0, hu1, hu2, hu3⟩ := hu
            unfold Oper.quietAt
            go_simp
            refine (isPoint_any).mono ?_
            rintro e u9 ⟨he, r9⟩
            rw [HX.out] at he
            exact ⟨he, KE _ (trans_new hu0 r9)⟩
          simp only [Act.put, List.setIfInBounds_toArray, List.set_cons_zero, List.set_cons_succ]
          go_big_quiet_on
          go_big_quiet_want
          apply Exists.intro
          refine ⟨fun u hu => ?_, ?_⟩
          · obtain ⟨hu0, hu1, hu2, hu3⟩ := hu
            unfold Oper.quietAt
            go_simp
            try rfl
          simp only [Act.put, List.setIfInBounds_toArray, List.set_cons_zero, List.set_cons_succ]
          go_big_quiet_on
          go_big_quiet_want
          go_big_quiet_op
          go_big_quiet_on
          go_big_quiet_want
          go_big_quiet_op
          go_big_quiet_on
          go_big_quiet_want
          apply Exists.intro
          refine ⟨fun u hu => ?_, ?_⟩
          · obtain ⟨hu0, hu1, hu2, hu3⟩ := hu
            unfold Oper.quietAt
            go_simp
            try rfl
          simp only [Act.put, List.setIfInBounds_toArray, List.set_cons_zero, List.set_cons_succ]
          go_big_quiet_on
          go_big_quiet_want
          go_big_quiet_op
          go_big_quiet_on
          repeat go_big_quiet_skip
          go_big_quiet_want
          apply Exists.intro
          refine ⟨fun u hu => ?_, ?_⟩
          · obtain ⟨hu0, hu1, hu2, hu3⟩ := hu
            unfold Oper.quietAt
            go_simp
            try rfl
          simp only [Act.put, List.setIfInBounds_toArray, List.set_cons_zero, List.set_cons_succ]
          go_big_quiet_on
          go_big_quiet_want
          apply Exists.intro
          refine ⟨fun u hu => ?_, ?_⟩
          · obtain ⟨hu0, hu1, hu2, hu3⟩ := hu
            unfold Oper.quietAt
            go_simp
            try rfl
          simp only [Act.put, List.setIfInBounds_toArray, List.set_cons_zero, List.set_cons_succ]
          go_big_quiet_on
          refine wpQuiet_nil ?_
          rintro u ⟨k9, _⟩
          go_wp2_with fail
          go_roundw
          case rel => exact ⟨1, by omega, by go_num, HP, (hb.trans (hb1.mono hsz)).trans (k9.mono (Nat.le_trans hsz hb1.size))⟩
          case measure => simp [intOf]; omega
        · obtain ⟨j, hj⟩ : ∃ j, k = j + 1 := ⟨k - 1, by omega⟩
          have hk1 : j < X.length := by omega
          have j0 : (0 : Int) ≤ (j : Int) := by omega
          have j1 : (j : Int) < (n : Int) := by omega
          have hwj : IntKind.i64.wrap ((k : Int) - 1) = (j : Int) := (IntWalk.i64_in ((k : Int) - 1) (by omega)).trans (by omega)
          have hkp : 0 < k := by omega
          have hkp' : (0 : Int) < (k : Int) := by omega
          have HA := Lib.hid (ptAt_2 hkz hj hk1 hx1)
          obtain ⟨ad', p', e', hp', hab', h0', _, _⟩ := t3_cells hrr hk1
          injection e' with e'
          subst e'
          obtain ⟨x, hx⟩ : ∃ x, x = X[k] := ⟨_, rfl⟩
          obtain ⟨y, hy⟩ : ∃ y, y = X[j] := ⟨_, rfl⟩
          rw [← hx] at h0 h1 h2 hx1 HA
          rw [← hy] at h0' HA
          have HX := Lib.hid (show ptOk (x.1, x.2.1, x.2.2) = true from hx1)
          have dk : decide ((0 : Int) < (k : Int)) = true := decide_eq_true hkp'
          obtain ⟨W1, hW, bx, hb1, hz⟩ := box3 wr 48 (.int .i64 x.1) (.int .i64 x.2.1) (.int .i64 x.2.2)
          have HW := Lib.hid hW
          have KE := fun (u : World) (q : Below W1.heap.size W1 u) => show Below W1.heap.size W1 u ∧ u.cell? ⟨wr.heap.size, 0, none⟩ = some (.int .i64 x.1) ∧ u.cell? ⟨wr.heap.size, 1, none⟩ = some (.int .i64 x.2.1) ∧ u.cell? ⟨wr.heap.size, 2, none⟩ = some (.int .i64 x.2.2) ∧ u.cell? p' = some (.int .i64 y.1) from ⟨q, (bx.cells3 q).1, (bx.cells3 q).2.1, (bx.cells3 q).2.2, cell_nw (hb1.trans (q.mono hb1.size)) h0'⟩
          clear hx hx1 hy hj hW hz
          by_cases hxy : y.1 < x.1
          · have HP := Lib.hid (pt_snoc ha.out (HA.out.trans (decide_eq_true hxy)))
            have d1 : decide (x.1 ≤ y.1) = false := decide_eq_false (by omega)
            go_wp2_with fail
            rw [HW.out]
            refine wp_region_quiet (C := fun u => Below W1.heap.size W1 u ∧ u.cell? ⟨wr.heap.size, 0, none⟩ = some (.int .i64 x.1) ∧ u.cell? ⟨wr.heap.size, 1, none⟩ = some (.int .i64 x.2.1) ∧ u.cell? ⟨wr.heap.size, 2, none⟩ = some (.int .i64 x.2.2) ∧ u.cell? p' = some (.int .i64 y.1)) (by kernel_rfl) (by kernel_rfl) (KE _ (Below.refl W1.heap.size W1).drew) ?_
            rw [List.toList_toArray]
            go_big_quiet_want
            apply Exists.intro
            refine ⟨fun u hu => ?_, ?_⟩
            · obtain ⟨hu0, hu1, hu2, hu3, hu4⟩ := hu
              unfold Oper.quietAt
              go_simp
              try rfl
            simp only [Act.put, List.setIfInBounds_toArray, List.set_cons_zero, List.set_cons_succ]
            go_big_quiet_on
            go_big_quiet_want
            refine ⟨.bool true, fun u hu => ?_, ?_⟩
            · obtain ⟨hu0, hu1, hu2, hu3, hu4⟩ := hu
              unfold Oper.quietAt
              go_simp
              refine (isPoint_any).mono ?_
              rintro e u9 ⟨he, r9⟩
              rw [HX.out] at he
              exact ⟨he, KE _ (trans_new hu0 r9)⟩
            simp only [Act.put, List.setIfInBounds_toArray, List.set_cons_zero, List.set_cons_succ]
            go_big_quiet_on
            go_big_quiet_want
            apply Exists.intro
            refine ⟨fun u hu => ?_, ?_⟩
            · obtain ⟨hu0, hu1, hu2, hu3, hu4⟩ := hu
              unfold Oper.quietAt
              go_simp
              try rfl
            simp only [Act.put, List.setIfInBounds_toArray, List.set_cons_zero, List.set_cons_succ]
            go_big_quiet_on
            go_big_quiet_want
            go_big_quiet_op
            go_big_quiet_on
            go_big_quiet_want
            go_big_quiet_op
            go_big_quiet_on
            go_big_quiet_want
            apply Exists.intro
            refine ⟨fun u hu => ?_, ?_⟩
            · obtain ⟨hu0, hu1, hu2, hu3, hu4⟩ := hu
              unfold Oper.quietAt
              go_simp
              try rfl
            simp only [Act.put, List.setIfInBounds_toArray, List.set_cons_zero, List.set_cons_succ]
            go_big_quiet_on
            go_big_quiet_want
            go_big_quiet_op
            go_big_quiet_on
            go_big_quiet_want
            apply Exists.intro
            refine ⟨fun u hu => ?_, ?_⟩
            · obtain ⟨hu0, hu1, hu2, hu3, hu4⟩ := hu
              unfold Oper.quietAt
              go_simp
              try rfl
            simp only [Act.put, List.setIfInBounds_toArray, List.set_cons_zero, List.set_cons_succ]
            go_big_quiet_on
            go_big_quiet_want
            apply Exists.intro
            refine ⟨fun u hu => ?_, ?_⟩
            · obtain ⟨hu0, hu1, hu2, hu3, hu4⟩ := hu
              unfold Oper.quietAt
              go_simp
              try rfl
            simp only [Act.put, List.setIfInBounds_toArray, List.set_cons_zero, List.set_cons_succ]
            go_big_quiet_on
            go_big_quiet_want
            go_big_quiet_op
            go_big_quiet_on
            go_big_quiet_want
            go_big_quiet_op
            go_big_quiet_on
            go_big_quiet_want
            apply Exists.intro
            refine ⟨fun u hu => ?_, ?_⟩
            · obtain ⟨hu0, hu1, hu2, hu3, hu4⟩ := hu
              unfold Oper.quietAt
              go_simp
              try rfl
            simp only [Act.put, List.setIfInBounds_toArray, List.set_cons_zero, List.set_cons_succ]
            go_big_quiet_on
            go_big_quiet_want
            apply Exists.intro
            refine ⟨fun u hu => ?_, ?_⟩
            · obtain ⟨hu0, hu1, hu2, hu3, hu4⟩ := hu
              unfold Oper.quietAt
              go_simp
              try rfl
            simp only [Act.put, List.setIfInBounds_toArray, List.set_cons_zero, List.set_cons_succ]
            go_big_quiet_on
            go_big_quiet_want
            apply Exists.intro
            refine ⟨fun u hu => ?_, ?_⟩
            · obtain ⟨hu0, hu1, hu2, hu3, hu4⟩ := hu
              unfold Oper.quietAt
              go_simp
              try rfl
            simp only [Act.put, List.setIfInBounds_toArray, List.set_cons_zero, List.set_cons_succ]
            go_big_quiet_on
            go_big_quiet_want
            apply Exists.intro
            refine ⟨fun u hu => ?_, ?_⟩
            · obtain ⟨hu0, hu1, hu2, hu3, hu4⟩ := hu
              unfold Oper.quietAt
              go_simp
              try rfl
            simp only [Act.put, List.setIfInBounds_toArray, List.set_cons_zero, List.set_cons_succ]
            go_big_quiet_on
            go_big_quiet_want
            apply Exists.intro
            refine ⟨fun u hu => ?_, ?_⟩
            · obtain ⟨hu0, hu1, hu2, hu3, hu4⟩ := hu
              unfold Oper.quietAt
              go_simp
              try rfl
            simp only [Act.put, List.setIfInBounds_toArray, List.set_cons_zero, List.set_cons_succ]
            go_big_quiet_on
            go_big_quiet_want
            apply Exists.intro
            refine ⟨fun u hu => ?_, ?_⟩
            · obtain ⟨hu0, hu1, hu2, hu3, hu4⟩ := hu
              unfold Oper.quietAt
              go_simp
              try rfl
            simp only [Act.put, List.setIfInBounds_toArray, List.set_cons_zero, List.set_cons_succ]
            go_big_quiet_on
            go_big_quiet_want
            apply Exists.intro
            refine ⟨fun u hu => ?_, ?_⟩
            · obtain ⟨hu0, hu1, hu2, hu3, hu4⟩ := hu
              unfold Oper.quietAt
              go_simp
              try rfl
            simp only [Act.put, List.setIfInBounds_toArray, List.set_cons_zero, List.set_cons_succ]
            go_big_quiet_on
            refine wpQuiet_nil ?_
            rintro u ⟨k9, _⟩
            go_wp2_with fail
            go_roundw
            case rel => exact ⟨k + 1, by omega, by go_num, HP, (hb.trans (hb1.mono hsz)).trans (k9.mono (Nat.le_trans hsz hb1.size))⟩
            case measure => simp [intOf]; omega
          · have HV := Lib.hid (pt_no hkz (HA.out.trans (decide_eq_false hxy)))
            have d1 : decide (x.1 ≤ y.1) = true := decide_eq_true (by omega)
            go_wp2_with fail
            rw [HW.out]
            refine wp_region_quiet (C := fun u => Below W1.heap.size W1 u ∧ u.cell? ⟨wr.heap.size, 0, none⟩ = some (.int .i64 x.1) ∧ u.cell? ⟨wr.heap.size, 1, none⟩ = some (.int .i64 x.2.1) ∧ u.cell? ⟨wr.heap.size, 2, none⟩ = some (.int .i64 x.2.2) ∧ u.cell? p' = some (.int .i64 y.1)) (by kernel_rfl) (by kernel_rfl) (KE _ (Below.refl W1.heap.size W1).drew) ?_
            rw [List.toList_toArray]
            go_big_quiet_want
            apply Exists.intro
            refine ⟨fun u hu => ?_, ?_⟩
            · obtain ⟨hu0, hu1, hu2, hu3, hu4⟩ := hu
              unfold Oper.quietAt
              go_simp
              try rfl
            simp only [Act.put, List.setIfInBounds_toArray, List.set_cons_zero, List.set_cons_succ]
            go_big_quiet_on
            go_big_quiet_want
            refine ⟨.bool true, fun u hu => ?_, ?_⟩
            · obtain ⟨hu0, hu1, hu2, hu3, hu4⟩ := hu
              unfold Oper.quietAt
              go_simp
              refine (isPoint_any).mono ?_
              rintro e u9 ⟨he, r9⟩
              rw [HX.out] at he
              exact ⟨he, KE _ (trans_new hu0 r9)⟩
            simp only [Act.put, List.setIfInBounds_toArray, List.set_cons_zero, List.set_cons_succ]
            go_big_quiet_on
            go_big_quiet_want
            apply Exists.intro
            refine ⟨fun u hu => ?_, ?_⟩
            · obtain ⟨hu0, hu1, hu2, hu3, hu4⟩ := hu
              unfold Oper.quietAt
              go_simp
              try rfl
            simp only [Act.put, List.setIfInBounds_toArray, List.set_cons_zero, List.set_cons_succ]
            go_big_quiet_on
            go_big_quiet_want
            go_big_quiet_op
            go_big_quiet_on
            go_big_quiet_want
            go_big_quiet_op
            go_big_quiet_on
            go_big_quiet_want
            apply Exists.intro
            refine ⟨fun u hu => ?_, ?_⟩
            · obtain ⟨hu0, hu1, hu2, hu3, hu4⟩ := hu
              unfold Oper.quietAt
              go_simp
              try rfl
            simp only [Act.put, List.setIfInBounds_toArray, List.set_cons_zero, List.set_cons_succ]
            go_big_quiet_on
            go_big_quiet_want
            go_big_quiet_op
            go_big_quiet_on
            go_big_quiet_want
            apply Exists.intro
            refine ⟨fun u hu => ?_, ?_⟩
            · obtain ⟨hu0, hu1, hu2, hu3, hu4⟩ := hu
              unfold Oper.quietAt
              go_simp
              try rfl
            simp only [Act.put, List.setIfInBounds_toArray, List.set_cons_zero, List.set_cons_succ]
            go_big_quiet_on
            go_big_quiet_want
            apply Exists.intro
            refine ⟨fun u hu => ?_, ?_⟩
            · obtain ⟨hu0, hu1, hu2, hu3, hu4⟩ := hu
              unfold Oper.quietAt
              go_simp
              try rfl
            simp only [Act.put, List.setIfInBounds_toArray, List.set_cons_zero, List.set_cons_succ]
            go_big_quiet_on
            go_big_quiet_want
            go_big_quiet_op
            go_big_quiet_on
            go_big_quiet_want
            go_big_quiet_op
            go_big_quiet_on
            go_big_quiet_want
            apply Exists.intro
            refine ⟨fun u hu => ?_, ?_⟩
            · obtain ⟨hu0, hu1, hu2, hu3, hu4⟩ := hu
              unfold Oper.quietAt
              go_simp
              try rfl
            simp only [Act.put, List.setIfInBounds_toArray, List.set_cons_zero, List.set_cons_succ]
            go_big_quiet_on
            go_big_quiet_want
            apply Exists.intro
            refine ⟨fun u hu => ?_, ?_⟩
            · obtain ⟨hu0, hu1, hu2, hu3, hu4⟩ := hu
              unfold Oper.quietAt
              go_simp
              try rfl
            simp only [Act.put, List.setIfInBounds_toArray, List.set_cons_zero, List.set_cons_succ]
            go_big_quiet_on
            go_big_quiet_want
            apply Exists.intro
            refine ⟨fun u hu => ?_, ?_⟩
            · obtain ⟨hu0, hu1, hu2, hu3, hu4⟩ := hu
              unfold Oper.quietAt
              go_simp
              try rfl
            simp only [Act.put, List.setIfInBounds_toArray, List.set_cons_zero, List.set_cons_succ]
            go_big_quiet_on
            go_big_quiet_want
            apply Exists.intro
            refine ⟨fun u hu => ?_, ?_⟩
            · obtain ⟨hu0, hu1, hu2, hu3, hu4⟩ := hu
              unfold Oper.quietAt
              go_simp
              try rfl
            simp only [Act.put, List.setIfInBounds_toArray, List.set_cons_zero, List.set_cons_succ]
            go_big_quiet_on
            go_big_quiet_want
            apply Exists.intro
            refine ⟨fun u hu => ?_, ?_⟩
            · obtain ⟨hu0, hu1, hu2, hu3, hu4⟩ := hu
              unfold Oper.quietAt
              go_simp
              try rfl
            simp only [Act.put, List.setIfInBounds_toArray, List.set_cons_zero, List.set_cons_succ]
            go_big_quiet_on
            go_big_quiet_want
            apply Exists.intro
            refine ⟨fun u hu => ?_, ?_⟩
            · obtain ⟨hu0, hu1, hu2, hu3, hu4⟩ := hu
              unfold Oper.quietAt
              go_simp
              try rfl
            simp only [Act.put, List.setIfInBounds_toArray, List.set_cons_zero, List.set_cons_succ]
            go_big_quiet_on
            go_big_quiet_want
            apply Exists.intro
            refine ⟨fun u hu => ?_, ?_⟩
            · obtain ⟨hu0, hu1, hu2, hu3, hu4⟩ := hu
              unfold Oper.quietAt
              go_simp
              try rfl
            simp only [Act.put, List.setIfInBounds_toArray, List.set_cons_zero, List.set_cons_succ]
            go_big_quiet_on
            refine wpQuiet_nil ?_
            rintro u ⟨k9, _⟩
            go_wp2_with fail
            go_ret
            exact ⟨ret_b HV.out.symm, (hb.trans (hb1.mono hsz)).trans (k9.mono (Nat.le_trans hsz hb1.size))⟩
    · have e : k = n := by omega
      subst e
      have HT := Lib.hid (show ptB X = true by
        unfold ptB
        rw [hl.out, ha.out, Bool.true_and]
        exact decide_eq_true (by omega))
      go_wp2_with fail
      go_ret
      exact ⟨ret_b HT.out.symm, hb⟩
def worN (s : Int) : Int := if s = 1 ∨ s = 3 then 1 else if s = 4 then -1 else 0
theorem worth_any {w : World} {a : Int} : Calls Try.prog 100 #[.int .i64 a] w (fun e w' => e = .returned (.int .i64 (worN a)) ∧ w = w') := by
  by_cases s1 : a = 1
  · subst s1
    go_enter Try.func100, Try.ntmps100
    go_wp2_with fail
    go_ret
    exact ⟨rfl, rfl⟩
  · by_cases s3 : a = 3
    · subst s3
      go_enter Try.func100, Try.ntmps100
      go_wp2_with fail
      go_ret
      exact ⟨rfl, rfl⟩
    · by_cases s4 : a = 4
      · subst s4
        go_enter Try.func100, Try.ntmps100
        go_wp2_with fail
        go_ret
        exact ⟨rfl, rfl⟩
      · have HV := Lib.hid (show worN a = 0 by unfold worN; rw [if_neg (by omega), if_neg s4])
        have e1 : (a == 1) = false := by simpa using s1
        have e3 : (a == 3) = false := by simpa using s3
        have e4 : (a == 4) = false := by simpa using s4
        go_enter Try.func100, Try.ntmps100
        go_wp2_with fail
        go_ret
        exact ⟨ret_i HV.out.symm, rfl⟩
theorem worN_le (s : Int) : -1 ≤ worN s ∧ worN s ≤ 1 := by
  unfold worN
  split
  · omega
  · split <;> omega
theorem wonP_w (q : Int) (x : T3) : wonP q x = if x.2.1 = q then worN x.2.2 else 0 := rfl
set_option maxHeartbeats 4000000 in
theorem impWon_any {w : World} {A : Option Addr} {n c : Nat} {q : Int} {X : List T3} (hl : Hid (X.length = n)) (hn : n ≤ 1099511627776) (hr : Rd w w.heap.size A (t3s X)) :
    Calls Try.prog 35 #[.slice A n c, .int .i64 q] w (fun e w' => e = .returned (.int .i64 (wonN X q)) ∧ Below w.heap.size w w') := by
  have HR := Lib.hid hr
  clear hr
  go_enter Try.func35, Try.ntmps35
  go_wp2_with fail
  go_loopw [5, 10] (fun s i wr => ∃ (k : Nat) (t : Int), k ≤ n ∧ i = .int .i64 k ∧ s = .int .i64 t ∧ Hid (t = wonN (X.take k) q) ∧ (-(k : Int) ≤ t ∧ t ≤ (k : Int)) ∧ Below w.heap.size w wr) (fun _ i _ => n - (intOf i).toNat)
  case atStart => exact ⟨0, 0, Nat.zero_le _, rfl, rfl, Lib.hid rfl, by omega, Below.refl _ _⟩
  case round =>
    obtain ⟨k, t, hk, rfl, rfl, ht, htb, hb⟩ := hrel
    have hsz := hb.size
    by_cases hlt : k < n
    · have hkz : k < X.length := by rw [hl.out]; exact hlt
      have i0 : (0 : Int) ≤ (k : Int) := by omega
      have i1 : (k : Int) < (n : Int) := by omega
      obtain ⟨ad, p, rfl, hp, hab, h0, h1, h2⟩ := t3_cells ((HR.out.below hb).more hsz) hkz
      have HS := Lib.hid (won_snoc X q hkz)
      obtain ⟨x, hx⟩ : ∃ x, x = X[k] := ⟨_, rfl⟩
      rw [← hx] at h0 h1 h2 HS
      obtain ⟨W1, hW, bx, hb1, hz⟩ := box3 wr 48 (.int .i64 x.1) (.int .i64 x.2.1) (.int .i64 x.2.2)
      have HW := Lib.hid hW
      obtain ⟨c0, c1, c2⟩ := bx.cells3 (Below.refl _ _)
      rw [← hW] at c0 c1 c2
      have hb2 := hb.trans (hb1.mono hsz)
      clear hx hW hz bx hb1
      by_cases hq : x.2.1 = q
      · have hq' : (x.2.1 == q) = true := by simpa using hq
        have wb := worN_le x.2.2
        have HV := Lib.hid (show wonN (X.take (k + 1)) q = t + worN x.2.2 by rw [HS.out, ht.out, wonP_w, if_pos hq])
        obtain ⟨u, hu⟩ : ∃ u, worN x.2.2 = u := ⟨_, rfl⟩
        rw [hu] at wb HV
        have HU := Lib.hid hu
        have w1 := IntWalk.i64_in (t + u) (by omega)
        clear hq hu
        go_wp2_with fail
        refine (worth_any).mono ?_
        rintro e w9 ⟨rfl, rfl⟩
        rw [HU.out, HW.out]
        go_wp2_with fail
        go_roundw
        case rel => exact ⟨k + 1, t + u, by omega, by go_num, rfl, Lib.hid HV.out.symm, by omega, hb2⟩
        case measure => simp [intOf]; omega
      · have hq' : (x.2.1 == q) = false := by simpa using hq
        have HV := Lib.hid (show wonN (X.take (k + 1)) q = t by rw [HS.out, ht.out, wonP_w, if_neg hq]; omega)
        clear hq
        go_wp2_with fail
        rw [HW.out]
        try (go_wp2_with fail)
        go_roundw
        case rel => exact ⟨k + 1, t, by omega, by go_num, rfl, Lib.hid HV.out.symm, by omega, hb2⟩
        case measure => simp [intOf]; omega
    · have e : k = n := by omega
      subst e
      have HT := Lib.hid (show t = wonN X q by rw [ht.out, List.take_of_length_le (by rw [hl.out]; exact Nat.le_refl _)])
      go_wp2_with fail
      go_ret
      exact ⟨ret_i HT.out, hb⟩
end Go.Proofs.Ytignchefkihdaaa
