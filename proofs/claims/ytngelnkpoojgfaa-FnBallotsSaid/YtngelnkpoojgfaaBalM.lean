/- Contracts of the models of chapter 16: IsBallot, AreBallots, l16Of, VotesFor, SumFor, Decision, IsSplit. Condition: the slice has at most 2^40 elements. -/
import Derived.Test.YtngelnkpoojgfaaBallotC
import Derived.Test.YtngelnkpoojgfaaBalMath
import Derived.Test.YtngelnkpoojgfaaInts
namespace Go.Proofs.Ytngelnkpoojgfaa
open Go.ChangeShapes Go.WideShapes Go.ChangeAt Go.RowKit
set_option maxRecDepth 100000
theorem alloc_new' (w : World) (o : Obj) : Below w.heap.size w (w.alloc o) := (Below.refl _ _).alloc (Nat.le_refl _) o
theorem Bx.cells3 {w w' : World} {g : Nat} {t : TypeId} {a b c : Value} (h : Bx w g t #[a, b, c]) (hb : Below w.heap.size w w') : w'.cell? ⟨g, 0, none⟩ = some a ∧ w'.cell? ⟨g, 1, none⟩ = some b ∧ w'.cell? ⟨g, 2, none⟩ = some c := by
  have k := h.new hb
  refine ⟨?_, ?_, ?_⟩ <;> (rw [cell_of_row _ _ _ _ _ _ k]; rfl)
theorem cell_nw {w w' : World} {p : Addr} {v : Value} (r : Below w.heap.size w w') (h : w.cell? p = some v) : w'.cell? p = some v := (r.cell (p := p) (cell_lt h)).trans h
/-- A struct's box, made: the world, the block, what lies below. -/
theorem box3 (w : World) (t : TypeId) (a b c : Value) : ∃ W1 : World, w.alloc (Obj.cells #[a, b, c] t) = W1 ∧ Bx W1 w.heap.size t #[a, b, c] ∧ Below w.heap.size w W1 ∧ W1.heap.size = w.heap.size + 1 :=
  ⟨_, rfl, Bx.made _ _ _, alloc_new' _ _, by simp⟩
set_option maxHeartbeats 1000000 in
theorem specIsBallot_any {w : World} {a b c : Int} : Calls Try.prog 97 #[.agg #[.int .i64 a, .int .i64 b, .int .i64 c]] w (Tells (blB (a, b, c)) w) := by
  have hb1 := alloc_new' w (Obj.cells #[Value.int .i64 a, .int .i64 b, .int .i64 c] 51)
  by_cases h1 : inr a 1 99 = true
  · skip
    by_cases h2 : inr b 0 100 = true
    · skip
      by_cases h3 : inr c 0 100 = true
      · skip
        have HV := Lib.hid (show blB (a, b, c) = (b != c) by unfold blB; simp only [h1, h2, h3, Bool.true_and])
        have H1 := Lib.hid h1
        have H2 := Lib.hid h2
        have H3 := Lib.hid h3
        clear h1 h2 h3
        go_enter Try.func97, Try.ntmps97
        go_wp2_with fail
        refine (l1In_any _ _ _ _).mono ?_
        rintro e u ⟨rfl, rfl⟩
        rw [H1.out]
        go_wp2_with fail
        refine (l1In_any _ _ _ _).mono ?_
        rintro e u ⟨rfl, rfl⟩
        rw [H2.out]
        go_wp2_with fail
        refine (l1In_any _ _ _ _).mono ?_
        rintro e u ⟨rfl, rfl⟩
        rw [H3.out]
        go_wp2_with fail
        go_ret
        exact ⟨ret_b HV.out.symm, hb1⟩
      · have h3 : inr c 0 100 = false := by simpa using h3
        have HV := Lib.hid (show blB (a, b, c) = false by unfold blB; simp only [h1, h2, h3]; rfl)
        have H1 := Lib.hid h1
        have H2 := Lib.hid h2
        have H3 := Lib.hid h3
        clear h1 h2 h3
        go_enter Try.func97, Try.ntmps97
        go_wp2_with fail
        refine (l1In_any _ _ _ _).mono ?_
        rintro e u ⟨rfl, rfl⟩
        rw [H1.out]
        go_wp2_with fail
        refine (l1In_any _ _ _ _).mono ?_
        rintro e u ⟨rfl, rfl⟩
        rw [H2.out]
        go_wp2_with fail
        refine (l1In_any _ _ _ _).mono ?_
        rintro e u ⟨rfl, rfl⟩
        rw [H3.out]
        go_wp2_with fail
        go_ret
        exact ⟨ret_b HV.out.symm, hb1⟩
    · have h2 : inr b 0 100 = false := by simpa using h2
      have HV := Lib.hid (show blB (a, b, c) = false by unfold blB; simp only [h1, h2]; rfl)
      have H1 := Lib.hid h1
      have H2 := Lib.hid h2
      clear h1 h2
      go_enter Try.func97, Try.ntmps97
      go_wp2_with fail
      refine (l1In_any _ _ _ _).mono ?_
      rintro e u ⟨rfl, rfl⟩
      rw [H1.out]
      go_wp2_with fail
      refine (l1In_any _ _ _ _).mono ?_
      rintro e u ⟨rfl, rfl⟩
      rw [H2.out]
      go_wp2_with fail
      go_ret
      exact ⟨ret_b HV.out.symm, hb1⟩
  · have h1 : inr a 1 99 = false := by simpa using h1
    have HV := Lib.hid (show blB (a, b, c) = false by unfold blB; simp only [h1]; rfl)
    have H1 := Lib.hid h1
    clear h1
    go_enter Try.func97, Try.ntmps97
    go_wp2_with fail
    refine (l1In_any _ _ _ _).mono ?_
    rintro e u ⟨rfl, rfl⟩
    rw [H1.out]
    go_wp2_with fail
    go_ret
    exact ⟨ret_b HV.out.symm, hb1⟩
theorem bs_no {X : List T3} {k : Nat} (hk : k < X.length) (h : blAt X k = false) : bsB X = false := by
  unfold bsB
  have : (List.range X.length).all (blAt X) = false := by
    rw [List.all_eq_false]
    exact ⟨k, List.mem_range.2 hk, by simp [h]⟩
  rw [this, Bool.false_and]
theorem blAt_0 {X : List T3} {k : Nat} (hk : k < X.length) (h : blB X[k] = false) : blAt X k = false := by
  unfold blAt
  rw [getT hk, h, Bool.false_and]
theorem blAt_1 {X : List T3} (hk : 0 < X.length) (h : blB X[0] = true) : blAt X 0 = true := by
  unfold blAt
  rw [getT hk, h]
  rfl
theorem blAt_2 {X : List T3} {k j : Nat} (hk : k < X.length) (e : k = j + 1) (hj : j < X.length) (h : blB X[k] = true) : blAt X k = decide (X[j].1 < X[k].1) := by
  unfold blAt
  rw [getT hk, show k - 1 = j by omega, getT hj, h, Bool.true_and, show (k == 0) = false by simp [e], Bool.false_or]
theorem all_snoc {X : List T3} {k : Nat} (h : (List.range k).all (blAt X) = true) (h2 : blAt X k = true) : (List.range (k + 1)).all (blAt X) = true := by
  rw [List.range_succ, List.all_append, h, List.all_cons, h2]
  rfl
set_option maxHeartbeats 4000000 in
theorem specAreBallots_any {w : World} {A : Option Addr} {n c : Nat} {X : List T3} (hl : Hid (X.length = n)) (hn : n ≤ 1099511627776) (hr : Rd w w.heap.size A (t3s X)) :
    Calls Try.prog 78 #[.slice A n c] w (Tells (bsB X) w) := by
  go_enter Try.func78, Try.ntmps78
  go_wp2_with fail
  go_loopw [3] (fun i wr => ∃ k : Nat, k ≤ n ∧ i = .int .i64 k ∧ Hid ((List.range k).all (blAt X) = true) ∧ Below w.heap.size w wr) (fun i _ => n - (intOf i).toNat)
  case atStart => exact ⟨0, Nat.zero_le _, rfl, Lib.hid rfl, Below.refl _ _⟩
  case round =>
    obtain ⟨k, hk, rfl, ha, hb⟩ := hrel
    by_cases hlt : k < n
    · have hkz : k < X.length := by rw [hl.out]; exact hlt
      have hsz := hb.size
      obtain ⟨ad, p, rfl, hp, hab, h0, h1, h2⟩ := t3_cells ((hr.below hb).more hb.size) hkz
      have i0 : (0 : Int) ≤ (k : Int) := by omega
      have i1 : (k : Int) < (n : Int) := by omega
      cases hx1 : blB X[k] with
      | false =>
        have HV := Lib.hid (bs_no hkz (blAt_0 hkz hx1))
        obtain ⟨x, hx⟩ : ∃ x, x = X[k] := ⟨_, rfl⟩
        rw [← hx] at h0 h1 h2 hx1
        have HX := Lib.hid (show blB (x.1, x.2.1, x.2.2) = false from hx1)
        clear hx hx1
        go_wp2_with fail
        refine wp_region_quiet (C := fun u => Below wr.heap.size wr u ∧ u.cell? p = some (.int .i64 x.1) ∧ u.cell? ⟨p.block, p.off + 1, none⟩ = some (.int .i64 x.2.1) ∧ u.cell? ⟨p.block, p.off + 2, none⟩ = some (.int .i64 x.2.2)) (by kernel_rfl) (by kernel_rfl) ⟨(Below.refl wr.heap.size wr).drew, h0, h1, h2⟩ ?_
        rw [List.toList_toArray]
        go_big_quiet_want
        go_big_quiet_op
        go_big_quiet_on
        go_big_quiet_want
        go_big_quiet_op
        go_big_quiet_on
        go_big_quiet_want
        apply Exists.intro
        refine ⟨fun u hu => ?_, ?_⟩
        · obtain ⟨hu0, hu1, hu2, hu3⟩ := hu
          unfold Oper.quietAt
          go_simp
          try rfl
        simp only [Act.put, List.setIfInBounds_toArray, List.set_cons_zero, List.set_cons_succ]
        go_big_quiet_on
        go_big_quiet_want
        apply Exists.intro
        refine ⟨fun u hu => ?_, ?_⟩
        · obtain ⟨hu0, hu1, hu2, hu3⟩ := hu
          unfold Oper.quietAt
          go_simp
          try rfl
        simp only [Act.put, List.setIfInBounds_toArray, List.set_cons_zero, List.set_cons_succ]
        go_big_quiet_on
        go_big_quiet_want
        refine ⟨.bool false, fun u hu => ?_, ?_⟩
        · obtain ⟨hu0, hu1, hu2, hu3⟩ := hu
          unfold Oper.quietAt
          go_simp
          refine (specIsBallot_any).mono ?_
          rintro e u9 ⟨he, r9⟩
          rw [HX.out] at he
          exact ⟨he, trans_new hu0 r9, cell_nw r9 hu1, cell_nw r9 hu2, cell_nw r9 hu3⟩
        simp only [Act.put, List.setIfInBounds_toArray, List.set_cons_zero, List.set_cons_succ]
        go_big_quiet_on
        go_big_quiet_want
        apply Exists.intro
        refine ⟨fun u hu => ?_, ?_⟩
        · obtain ⟨hu0, hu1, hu2, hu3⟩ := hu
          unfold Oper.quietAt
          go_simp
          try rfl
        simp only [Act.put, List.setIfInBounds_toArray, List.set_cons_zero, List.set_cons_succ]
        go_big_quiet_on
        go_big_quiet_want
        go_big_quiet_op
        go_big_quiet_on
        repeat go_big_quiet_skip
        go_big_quiet_want
        apply Exists.intro
        refine ⟨fun u hu => ?_, ?_⟩
        · obtain ⟨hu0, hu1, hu2, hu3⟩ := hu
          unfold Oper.quietAt
          go_simp
          try rfl
        simp only [Act.put, List.setIfInBounds_toArray, List.set_cons_zero, List.set_cons_succ]
        go_big_quiet_on
        refine wpQuiet_nil ?_
        rintro u ⟨k9, _⟩
        go_wp2_with fail
        go_ret
        exact ⟨ret_b HV.out.symm, hb.trans (k9.mono hsz)⟩
      | true =>
        by_cases hk0 : k = 0
        · subst hk0
          have HP := Lib.hid (all_snoc ha.out (blAt_1 hkz hx1))
          obtain ⟨x, hx⟩ : ∃ x, x = X[0] := ⟨_, rfl⟩
          rw [← hx] at h0 h1 h2 hx1
          have HX := Lib.hid (show blB (x.1, x.2.1, x.2.2) = true from hx1)
          clear hx hx1
          go_wp2_with fail
          refine wp_region_quiet (C := fun u => Below wr.heap.size wr u ∧ u.cell? p = some (.int .i64 x.1) ∧ u.cell? ⟨p.block, p.off + 1, none⟩ = some (.int .i64 x.2.1) ∧ u.cell? ⟨p.block, p.off + 2, none⟩ = some (.int .i64 x.2.2)) (by kernel_rfl) (by kernel_rfl) ⟨(Below.refl wr.heap.size wr).drew, h0, h1, h2⟩ ?_
          rw [List.toList_toArray]
          go_big_quiet_want
          go_big_quiet_op
          go_big_quiet_on
          go_big_quiet_want
          go_big_quiet_op
          go_big_quiet_on
          go_big_quiet_want
          apply Exists.intro
          refine ⟨fun u hu => ?_, ?_⟩
          · obtain ⟨hu0, hu1, hu2, hu3⟩ := hu
            unfold Oper.quietAt
            go_simp
            try rfl
          simp only [Act.put, List.setIfInBounds_toArray, List.set_cons_zero, List.set_cons_succ]
          go_big_quiet_on
          go_big_quiet_want
          apply Exists.intro
          refine ⟨fun u hu => ?_, ?_⟩
          · obtain ⟨hu0, hu1, hu2, hu3⟩ := hu
            unfold Oper.quietAt
            go_simp
            try rfl
          simp only [Act.put, List.setIfInBounds_toArray, List.set_cons_zero, List.set_cons_succ]
          go_big_quiet_on
          go_big_quiet_want
          refine ⟨.bool true, fun u hu => ?_, ?_⟩
          · obtain ⟨hu0, hu1, hu2, hu3⟩ := hu
            unfold Oper.quietAt
            go_simp
            refine (specIsBallot_any).mono ?_
            rintro e u9 ⟨he, r9⟩
            rw [HX.out] at he
            exact ⟨he, trans_new hu0 r9, cell_nw r9 hu1, cell_nw r9 hu2, cell_nw r9 hu3⟩
          simp only [Act.put, List.setIfInBounds_toArray, List.set_cons_zero, List.set_cons_succ]
          go_big_quiet_on
          go_big_quiet_want
          apply Exists.intro
          refine ⟨fun u hu => ?_, ?_⟩
          · obtain ⟨hu0, hu1, hu2, hu3⟩ := hu
            unfold Oper.quietAt
            go_simp
            try rfl
          simp only [Act.put, List.setIfInBounds_toArray, List.set_cons_zero, List.set_cons_succ]
          go_big_quiet_on
          go_big_quiet_want
          go_big_quiet_op
          go_big_quiet_on
          go_big_quiet_want
          go_big_quiet_op
          go_big_quiet_on
          go_big_quiet_want
          apply Exists.intro
          refine ⟨fun u hu => ?_, ?_⟩
          · obtain ⟨hu0, hu1, hu2, hu3⟩ := hu
            unfold Oper.quietAt
            go_simp
            try rfl
          simp only [Act.put, List.setIfInBounds_toArray, List.set_cons_zero, List.set_cons_succ]
          go_big_quiet_on
          go_big_quiet_want
          go_big_quiet_op
          go_big_quiet_on
          repeat go_big_quiet_skip
          go_big_quiet_want
          apply Exists.intro
          refine ⟨fun u hu => ?_, ?_⟩
          · obtain ⟨hu0, hu1, hu2, hu3⟩ := hu
            unfold Oper.quietAt
            go_simp
            try rfl
          simp only [Act.put, List.setIfInBounds_toArray, List.set_cons_zero, List.set_cons_succ]
          go_big_quiet_on
          go_big_quiet_want
          apply Exists.intro
          refine ⟨fun u hu => ?_, ?_⟩
          · obtain ⟨hu0, hu1, hu2, hu3⟩ := hu
            unfold Oper.quietAt
            go_simp
            try rfl
          simp only [Act.put, List.setIfInBounds_toArray, List.set_cons_zero, List.set_cons_succ]
          go_big_quiet_on
          refine wpQuiet_nil ?_
          rintro u ⟨k9, _⟩
          go_wp2_with fail
          go_roundw
          case rel => exact ⟨1, by omega, by go_num, HP, hb.trans (k9.mono hsz)⟩
          case measure => simp [intOf]; omega
        · obtain ⟨j, hj⟩ : ∃ j, k = j + 1 := ⟨k - 1, by omega⟩
          have hk1 : j < X.length := by omega
          have j0 : (0 : Int) ≤ (j : Int) := by omega
          have j1 : (j : Int) < (n : Int) := by omega
          have hwj : IntKind.i64.wrap ((k : Int) - 1) = (j : Int) := (IntWalk.i64_in ((k : Int) - 1) (by omega)).trans (by omega)
          have hkp : 0 < k := by omega
          have hkp' : (0 : Int) < (k : Int) := by omega
          have HA := Lib.hid (blAt_2 hkz hj hk1 hx1)
          obtain ⟨ad', p', e', hp', hab', h0', _, _⟩ := t3_cells ((hr.below hb).more hb.size) hk1
          injection e' with e'
          subst e'
          obtain ⟨x, hx⟩ : ∃ x, x = X[k] := ⟨_, rfl⟩
          obtain ⟨y, hy⟩ : ∃ y, y = X[j] := ⟨_, rfl⟩
          rw [← hx] at h0 h1 h2 hx1 HA
          rw [← hy] at h0' HA
          have HX := Lib.hid (show blB (x.1, x.2.1, x.2.2) = true from hx1)
          have dk : decide ((0 : Int) < (k : Int)) = true := decide_eq_true hkp'
          clear hx hx1 hy hj
          by_cases hxy : y.1 < x.1
          · have HP := Lib.hid (all_snoc ha.out (HA.out.trans (decide_eq_true hxy)))
            have d1 : decide (x.1 ≤ y.1) = false := decide_eq_false (by omega)
            go_wp2_with fail
            refine wp_region_quiet (C := fun u => Below wr.heap.size wr u ∧ u.cell? p = some (.int .i64 x.1) ∧ u.cell? ⟨p.block, p.off + 1, none⟩ = some (.int .i64 x.2.1) ∧ u.cell? ⟨p.block, p.off + 2, none⟩ = some (.int .i64 x.2.2) ∧ u.cell? p' = some (.int .i64 y.1)) (by kernel_rfl) (by kernel_rfl) ⟨(Below.refl wr.heap.size wr).drew, h0, h1, h2, h0'⟩ ?_
            rw [List.toList_toArray]
            go_big_quiet_want
            go_big_quiet_op
            go_big_quiet_on
            go_big_quiet_want
            go_big_quiet_op
            go_big_quiet_on
            go_big_quiet_want
            apply Exists.intro
            refine ⟨fun u hu => ?_, ?_⟩
            · obtain ⟨hu0, hu1, hu2, hu3, hu4⟩ := hu
              unfold Oper.quietAt
              go_simp
              try rfl
            simp only [Act.put, List.setIfInBounds_toArray, List.set_cons_zero, List.set_cons_succ]
            go_big_quiet_on
            go_big_quiet_want
            apply Exists.intro
            refine ⟨fun u hu => ?_, ?_⟩
            · obtain ⟨hu0, hu1, hu2, hu3, hu4⟩ := hu
              unfold Oper.quietAt
              go_simp
              try rfl
            simp only [Act.put, List.setIfInBounds_toArray, List.set_cons_zero, List.set_cons_succ]
            go_big_quiet_on
            go_big_quiet_want
            refine ⟨.bool true, fun u hu => ?_, ?_⟩
            · obtain ⟨hu0, hu1, hu2, hu3, hu4⟩ := hu
              unfold Oper.quietAt
              go_simp
              refine (specIsBallot_any).mono ?_
              rintro e u9 ⟨he, r9⟩
              rw [HX.out] at he
              exact ⟨he, trans_new hu0 r9, cell_nw r9 hu1, cell_nw r9 hu2, cell_nw r9 hu3, cell_nw r9 hu4⟩
            simp only [Act.put, List.setIfInBounds_toArray, List.set_cons_zero, List.set_cons_succ]
            go_big_quiet_on
            go_big_quiet_want
            apply Exists.intro
            refine ⟨fun u hu => ?_, ?_⟩
            · obtain ⟨hu0, hu1, hu2, hu3, hu4⟩ := hu
              unfold Oper.quietAt
              go_simp
              try rfl
            simp only [Act.put, List.setIfInBounds_toArray, List.set_cons_zero, List.set_cons_succ]
            go_big_quiet_on
            go_big_quiet_want
            go_big_quiet_op
            go_big_quiet_on
            go_big_quiet_want
            go_big_quiet_op
            go_big_quiet_on
            go_big_quiet_want
            apply Exists.intro
            refine ⟨fun u hu => ?_, ?_⟩
            · obtain ⟨hu0, hu1, hu2, hu3, hu4⟩ := hu
              unfold Oper.quietAt
              go_simp
              try rfl
            simp only [Act.put, List.setIfInBounds_toArray, List.set_cons_zero, List.set_cons_succ]
            go_big_quiet_on
            go_big_quiet_want
            go_big_quiet_op
            go_big_quiet_on
            go_big_quiet_want
            go_big_quiet_op
            go_big_quiet_on
            go_big_quiet_want
            go_big_quiet_op
            go_big_quiet_on
            go_big_quiet_want
            apply Exists.intro
            refine ⟨fun u hu => ?_, ?_⟩
            · obtain ⟨hu0, hu1, hu2, hu3, hu4⟩ := hu
              unfold Oper.quietAt
              go_simp
              try rfl
            simp only [Act.put, List.setIfInBounds_toArray, List.set_cons_zero, List.set_cons_succ]
            go_big_quiet_on
            go_big_quiet_want
            apply Exists.intro
            refine ⟨fun u hu => ?_, ?_⟩
            · obtain ⟨hu0, hu1, hu2, hu3, hu4⟩ := hu
              unfold Oper.quietAt
              go_simp
              try rfl
            simp only [Act.put, List.setIfInBounds_toArray, List.set_cons_zero, List.set_cons_succ]
            go_big_quiet_on
            go_big_quiet_want
            apply Exists.intro
            refine ⟨fun u hu => ?_, ?_⟩
            · obtain ⟨hu0, hu1, hu2, hu3, hu4⟩ := hu
              unfold Oper.quietAt
              go_simp
              try rfl
            simp only [Act.put, List.setIfInBounds_toArray, List.set_cons_zero, List.set_cons_succ]
            go_big_quiet_on
            go_big_quiet_want
            apply Exists.intro
            refine ⟨fun u hu => ?_, ?_⟩
            · obtain ⟨hu0, hu1, hu2, hu3, hu4⟩ := hu
              unfold Oper.quietAt
              go_simp
              try rfl
            simp only [Act.put, List.setIfInBounds_toArray, List.set_cons_zero, List.set_cons_succ]
            go_big_quiet_on
            go_big_quiet_want
            go_big_quiet_op
            go_big_quiet_on
            go_big_quiet_want
            go_big_quiet_op
            go_big_quiet_on
            go_big_quiet_want
            apply Exists.intro
            refine ⟨fun u hu => ?_, ?_⟩
            · obtain ⟨hu0, hu1, hu2, hu3, hu4⟩ := hu
              unfold Oper.quietAt
              go_simp
              try rfl
            simp only [Act.put, List.setIfInBounds_toArray, List.set_cons_zero, List.set_cons_succ]
            go_big_quiet_on
            go_big_quiet_want
            apply Exists.intro
            refine ⟨fun u hu => ?_, ?_⟩
            · obtain ⟨hu0, hu1, hu2, hu3, hu4⟩ := hu
              unfold Oper.quietAt
              go_simp
              try rfl
            simp only [Act.put, List.setIfInBounds_toArray, List.set_cons_zero, List.set_cons_succ]
            go_big_quiet_on
            go_big_quiet_want
            apply Exists.intro
            refine ⟨fun u hu => ?_, ?_⟩
            · obtain ⟨hu0, hu1, hu2, hu3, hu4⟩ := hu
              unfold Oper.quietAt
              go_simp
              try rfl
            simp only [Act.put, List.setIfInBounds_toArray, List.set_cons_zero, List.set_cons_succ]
            go_big_quiet_on
            go_big_quiet_want
            apply Exists.intro
            refine ⟨fun u hu => ?_, ?_⟩
            · obtain ⟨hu0, hu1, hu2, hu3, hu4⟩ := hu
              unfold Oper.quietAt
              go_simp
              try rfl
            simp only [Act.put, List.setIfInBounds_toArray, List.set_cons_zero, List.set_cons_succ]
            go_big_quiet_on
            go_big_quiet_want
            apply Exists.intro
            refine ⟨fun u hu => ?_, ?_⟩
            · obtain ⟨hu0, hu1, hu2, hu3, hu4⟩ := hu
              unfold Oper.quietAt
              go_simp
              try rfl
            simp only [Act.put, List.setIfInBounds_toArray, List.set_cons_zero, List.set_cons_succ]
            go_big_quiet_on
            go_big_quiet_want
            apply Exists.intro
            refine ⟨fun u hu => ?_, ?_⟩
            · obtain ⟨hu0, hu1, hu2, hu3, hu4⟩ := hu
              unfold Oper.quietAt
              go_simp
              try rfl
            simp only [Act.put, List.setIfInBounds_toArray, List.set_cons_zero, List.set_cons_succ]
            go_big_quiet_on
            refine wpQuiet_nil ?_
            rintro u ⟨k9, _⟩
            go_wp2_with fail
            go_roundw
            case rel => exact ⟨k + 1, by omega, by go_num, HP, hb.trans (k9.mono hsz)⟩
            case measure => simp [intOf]; omega
          · have HV := Lib.hid (bs_no hkz (HA.out.trans (decide_eq_false hxy)))
            have d1 : decide (x.1 ≤ y.1) = true := decide_eq_true (by omega)
            go_wp2_with fail
            refine wp_region_quiet (C := fun u => Below wr.heap.size wr u ∧ u.cell? p = some (.int .i64 x.1) ∧ u.cell? ⟨p.block, p.off + 1, none⟩ = some (.int .i64 x.2.1) ∧ u.cell? ⟨p.block, p.off + 2, none⟩ = some (.int .i64 x.2.2) ∧ u.cell? p' = some (.int .i64 y.1)) (by kernel_rfl) (by kernel_rfl) ⟨(Below.refl wr.heap.size wr).drew, h0, h1, h2, h0'⟩ ?_
            rw [List.toList_toArray]
            go_big_quiet_want
            go_big_quiet_op
            go_big_quiet_on
            go_big_quiet_want
            go_big_quiet_op
            go_big_quiet_on
            go_big_quiet_want
            apply Exists.intro
            refine ⟨fun u hu => ?_, ?_⟩
            · obtain ⟨hu0, hu1, hu2, hu3, hu4⟩ := hu
              unfold Oper.quietAt
              go_simp
              try rfl
            simp only [Act.put, List.setIfInBounds_toArray, List.set_cons_zero, List.set_cons_succ]
            go_big_quiet_on
            go_big_quiet_want
            apply Exists.intro
            refine ⟨fun u hu => ?_, ?_⟩
            · obtain ⟨hu0, hu1, hu2, hu3, hu4⟩ := hu
              unfold Oper.quietAt
              go_simp
              try rfl
            simp only [Act.put, List.setIfInBounds_toArray, List.set_cons_zero, List.set_cons_succ]
            go_big_quiet_on
            go_big_quiet_want
            refine ⟨.bool true, fun u hu => ?_, ?_⟩
            · obtain ⟨hu0, hu1, hu2, hu3, hu4⟩ := hu
              unfold Oper.quietAt
              go_simp
              refine (specIsBallot_any).mono ?_
              rintro e u9 ⟨he, r9⟩
              rw [HX.out] at he
              exact ⟨he, trans_new hu0 r9, cell_nw r9 hu1, cell_nw r9 hu2, cell_nw r9 hu3, cell_nw r9 hu4⟩
            simp only [Act.put, List.setIfInBounds_toArray, List.set_cons_zero, List.set_cons_succ]
            go_big_quiet_on
            go_big_quiet_want
            apply Exists.intro
            refine ⟨fun u hu => ?_, ?_⟩
            · obtain ⟨hu0, hu1, hu2, hu3, hu4⟩ := hu
              unfold Oper.quietAt
              go_simp
              try rfl
            simp only [Act.put, List.setIfInBounds_toArray, List.set_cons_zero, List.set_cons_succ]
            go_big_quiet_on
            go_big_quiet_want
            go_big_quiet_op
            go_big_quiet_on
            go_big_quiet_want
            go_big_quiet_op
            go_big_quiet_on
            go_big_quiet_want
            apply Exists.intro
            refine ⟨fun u hu => ?_, ?_⟩
            · obtain ⟨hu0, hu1, hu2, hu3, hu4⟩ := hu
              unfold Oper.quietAt
              go_simp
              try rfl
            simp only [Act.put, List.setIfInBounds_toArray, List.set_cons_zero, List.set_cons_succ]
            go_big_quiet_on
            go_big_quiet_want
            go_big_quiet_op
            go_big_quiet_on
            go_big_quiet_want
            go_big_quiet_op
            go_big_quiet_on
            go_big_quiet_want
            go_big_quiet_op
            go_big_quiet_on
            go_big_quiet_want
            apply Exists.intro
            refine ⟨fun u hu => ?_, ?_⟩
            · obtain ⟨hu0, hu1, hu2, hu3, hu4⟩ := hu
              unfold Oper.quietAt
              go_simp
              try rfl
            simp only [Act.put, List.setIfInBounds_toArray, List.set_cons_zero, List.set_cons_succ]
            go_big_quiet_on
            go_big_quiet_want
            apply Exists.intro
            refine ⟨fun u hu => ?_, ?_⟩
            · obtain ⟨hu0, hu1, hu2, hu3, hu4⟩ := hu
              unfold Oper.quietAt
              go_simp
              try rfl
            simp only [Act.put, List.setIfInBounds_toArray, List.set_cons_zero, List.set_cons_succ]
            go_big_quiet_on
            go_big_quiet_want
            apply Exists.intro
            refine ⟨fun u hu => ?_, ?_⟩
            · obtain ⟨hu0, hu1, hu2, hu3, hu4⟩ := hu
              unfold Oper.quietAt
              go_simp
              try rfl
            simp only [Act.put, List.setIfInBounds_toArray, List.set_cons_zero, List.set_cons_succ]
            go_big_quiet_on
            go_big_quiet_want
            apply Exists.intro
            refine ⟨fun u hu => ?_, ?_⟩
            · obtain ⟨hu0, hu1, hu2, hu3, hu4⟩ := hu
              unfold Oper.quietAt
              go_simp
              try rfl
            simp only [Act.put, List.setIfInBounds_toArray, List.set_cons_zero, List.set_cons_succ]
            go_big_quiet_on
            go_big_quiet_want
            go_big_quiet_op
            go_big_quiet_on
            go_big_quiet_want
            go_big_quiet_op
            go_big_quiet_on
            go_big_quiet_want
            apply Exists.intro
            refine ⟨fun u hu => ?_, ?_⟩
            · obtain ⟨hu0, hu1, hu2, hu3, hu4⟩ := hu
              unfold Oper.quietAt
              go_simp
              try rfl
            simp only [Act.put, List.setIfInBounds_toArray, List.set_cons_zero, List.set_cons_succ]
            go_big_quiet_on
            go_big_quiet_want
            apply Exists.intro
            refine ⟨fun u hu => ?_, ?_⟩
            · obtain ⟨hu0, hu1, hu2, hu3, hu4⟩ := hu
              unfold Oper.quietAt
              go_simp
              try rfl
            simp only [Act.put, List.setIfInBounds_toArray, List.set_cons_zero, List.set_cons_succ]
            go_big_quiet_on
            go_big_quiet_want
            apply Exists.intro
            refine ⟨fun u hu => ?_, ?_⟩
            · obtain ⟨hu0, hu1, hu2, hu3, hu4⟩ := hu
              unfold Oper.quietAt
              go_simp
              try rfl
            simp only [Act.put, List.setIfInBounds_toArray, List.set_cons_zero, List.set_cons_succ]
            go_big_quiet_on
            go_big_quiet_want
            apply Exists.intro
            refine ⟨fun u hu => ?_, ?_⟩
            · obtain ⟨hu0, hu1, hu2, hu3, hu4⟩ := hu
              unfold Oper.quietAt
              go_simp
              try rfl
            simp only [Act.put, List.setIfInBounds_toArray, List.set_cons_zero, List.set_cons_succ]
            go_big_quiet_on
            go_big_quiet_want
            apply Exists.intro
            refine ⟨fun u hu => ?_, ?_⟩
            · obtain ⟨hu0, hu1, hu2, hu3, hu4⟩ := hu
              unfold Oper.quietAt
              go_simp
              try rfl
            simp only [Act.put, List.setIfInBounds_toArray, List.set_cons_zero, List.set_cons_succ]
            go_big_quiet_on
            go_big_quiet_want
            apply Exists.intro
            refine ⟨fun u hu => ?_, ?_⟩
            · obtain ⟨hu0, hu1, hu2, hu3, hu4⟩ := hu
              unfold Oper.quietAt
              go_simp
              try rfl
            simp only [Act.put, List.setIfInBounds_toArray, List.set_cons_zero, List.set_cons_succ]
            go_big_quiet_on
            refine wpQuiet_nil ?_
            rintro u ⟨k9, _⟩
            go_wp2_with fail
            go_ret
            exact ⟨ret_b HV.out.symm, hb.trans (k9.mono hsz)⟩
    · have e : k = n := by omega
      subst e
      have HT := Lib.hid (show bsB X = decide ((k : Int) ≤ 9) by
        unfold bsB
        rw [hl.out, ha.out, Bool.true_and, Bool.eq_iff_iff, decide_eq_true_iff, decide_eq_true_iff]
        omega)
      go_wp2_with fail
      go_ret
      exact ⟨ret_b HT.out.symm, hb⟩
theorem specOf_any {w : World} {a b c : Int} : Calls Try.prog 81 #[.agg #[.int .i64 a, .int .i64 b, .int .i64 c]] w (fun e w' => e = .returned (.int .i64 (ofB (a, b, c))) ∧ Below w.heap.size w w') := by
  have hb1 := alloc_new' w (Obj.cells #[Value.int .i64 a, .int .i64 b, .int .i64 c] 51)
  by_cases h : c < b
  · have HV := Lib.hid (show ofB (a, b, c) = 1 from if_pos h)
    go_enter Try.func81, Try.ntmps81
    go_wp2_with fail
    go_ret
    exact ⟨ret_i HV.out.symm, hb1⟩
  · have HV := Lib.hid (show ofB (a, b, c) = 2 from if_neg h)
    go_enter Try.func81, Try.ntmps81
    go_wp2_with fail
    go_ret
    exact ⟨ret_i HV.out.symm, hb1⟩
end Go.Proofs.Ytngelnkpoojgfaa
