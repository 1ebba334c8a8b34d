/- Contract of the code's haveAscendingIds at sources. Condition: the slice has at most 2^40 elements. -/
import Derived.Test.YtdhnhhicjjcmdaaHasc
import Derived.Test.YtdhnhhicjjcmdaaSourceR
namespace Go.Proofs.Ytdhnhhicjjcmdaa
open Go.ChangeShapes Go.WideShapes Go.ChangeAt Go.RowKit
set_option maxRecDepth 100000
theorem src_id {w : World} {x : Src} : Calls Try.prog 51 #[.agg #[.int .i64 x.1, .int .i64 x.2.1, .int .i64 x.2.2.1, .bool x.2.2.2]] w (fun e w' => e = .returned (.int .i64 x.1) ∧ Below w.heap.size w w') := by
  have hb1 : Below w.heap.size w (w.alloc (Obj.cells #[.int .i64 x.1, .int .i64 x.2.1, .int .i64 x.2.2.1, .bool x.2.2.2] 40)) := (Below.refl _ _).alloc (Nat.le_refl _) _
  go_enter Try.func51, Try.ntmps51
  go_wp2_with fail
  go_ret
  exact ⟨rfl, hb1⟩
set_option maxHeartbeats 4000000 in
theorem src_asc {w : World} {A : Option Addr} {n c : Nat} {X : List Src} (hl : Hid (X.length = n)) (hn : n ≤ 1099511627776) (hr : Rd w w.heap.size A (flE srcE X)) :
    Calls Try.prog 50 #[.slice A n c, .func (.func 51) #[] #[]] w (Tells (ascB (X.map (·.1))) w) := by
  have hids : ((X.map (·.1))).length = n := by simpa using hl.out
  have HL := Lib.hid hids
  clear hids
  go_enter Try.func50, Try.ntmps50
  go_wp2_with fail
  go_loopw [9] (fun i wr => ∃ k : Nat, k ≤ n ∧ i = .int .i64 k ∧ Hid ((List.range k).all (ascAt (X.map (·.1))) = true) ∧ Below w.heap.size w wr) (fun i _ => n - (intOf i).toNat)
  case atStart => exact ⟨0, Nat.zero_le _, rfl, Lib.hid rfl, Below.refl _ _⟩
  case round =>
    obtain ⟨k, hk, rfl, ha, hb⟩ := hrel
    by_cases hlt : k < n
    · have hkz : k < X.length := by rw [hl.out]; exact hlt
      have hki : k < ((X.map (·.1))).length := by rw [HL.out]; exact hlt
      obtain ⟨ad, p, rfl, hp, hab, h0, h1, h2, h3⟩ := src_cells ((hr.below hb).more hb.size) hkz
      have hD : ((X.map (·.1))).getD k 0 = X[k].1 := by rw [ascD hki]; try simp
      obtain ⟨x, hx⟩ : ∃ x, x = X[k] := ⟨_, rfl⟩
      rw [← hx] at h0 h1 h2 h3 hD
      have HD := Lib.hid hD
      have i0 : (0 : Int) ≤ (k : Int) := by omega
      have i1 : (k : Int) < (n : Int) := by omega
      clear hx hD
      cases hi : inr x.1 1 99 with
      | false =>
          have HV := Lib.hid (asc_no hki (asc_0 HD.out hi))
          have HI := Lib.hid hi
          obtain ⟨W1, hW⟩ : ∃ W1, wr.alloc (Obj.cells #[.int .i64 x.1, .int .i64 x.2.1, .int .i64 x.2.2.1, .bool x.2.2.2] 40) = W1 := ⟨_, rfl⟩
          have bx := Bx.made wr 40 #[.int .i64 x.1, .int .i64 x.2.1, .int .i64 x.2.2.1, .bool x.2.2.2]
          have hb1 : Below wr.heap.size wr (wr.alloc (Obj.cells #[.int .i64 x.1, .int .i64 x.2.1, .int .i64 x.2.2.1, .bool x.2.2.2] 40)) := (Below.refl _ _).alloc (Nat.le_refl _) _
          rw [hW] at bx hb1
          have b0 : W1.cell? ⟨wr.heap.size, 0, none⟩ = some (.int .i64 x.1) := by rw [cell_of_row _ _ _ _ _ _ bx]; rfl
          have b1 : W1.cell? ⟨wr.heap.size, 1, none⟩ = some (.int .i64 x.2.1) := by rw [cell_of_row _ _ _ _ _ _ bx]; rfl
          have b2 : W1.cell? ⟨wr.heap.size, 2, none⟩ = some (.int .i64 x.2.2.1) := by rw [cell_of_row _ _ _ _ _ _ bx]; rfl
          have b3 : W1.cell? ⟨wr.heap.size, 3, none⟩ = some (.bool x.2.2.2) := by rw [cell_of_row _ _ _ _ _ _ bx]; rfl
          have HW := Lib.hid hW
          have hb2 := hb.trans (hb1.mono hb.size)
          have hz2 := hb2.size
          have KE := fun (u : World) (q : Below W1.heap.size W1 u) => show Below W1.heap.size W1 u ∧ u.cell? ⟨wr.heap.size, 0, none⟩ = some (.int .i64 x.1) ∧ u.cell? ⟨wr.heap.size, 1, none⟩ = some (.int .i64 x.2.1) ∧ u.cell? ⟨wr.heap.size, 2, none⟩ = some (.int .i64 x.2.2.1) ∧ u.cell? ⟨wr.heap.size, 3, none⟩ = some (.bool x.2.2.2) from ⟨q, nwc q b0, nwc q b1, nwc q b2, nwc q b3⟩
          clear hi hW bx
          go_wp2_with fail
          rw [HW.out]
          refine wp_region_quiet (C := fun u => Below W1.heap.size W1 u ∧ u.cell? ⟨wr.heap.size, 0, none⟩ = some (.int .i64 x.1) ∧ u.cell? ⟨wr.heap.size, 1, none⟩ = some (.int .i64 x.2.1) ∧ u.cell? ⟨wr.heap.size, 2, none⟩ = some (.int .i64 x.2.2.1) ∧ u.cell? ⟨wr.heap.size, 3, none⟩ = some (.bool x.2.2.2)) (by kernel_rfl) (by kernel_rfl) (KE _ (Below.refl W1.heap.size W1).drew) ?_
          rw [List.toList_toArray]
          go_big_quiet_want
          go_big_quiet_op
          go_big_quiet_on
          go_big_quiet_want
          apply Exists.intro
          refine ⟨fun u hu => ?_, ?_⟩
          · obtain ⟨hu0, hu1, hu2, hu3, hu4⟩ := hu
            unfold Oper.quietAt
            go_simp
            try rfl
          simp only [Act.put, List.setIfInBounds_toArray, List.set_cons_zero, List.set_cons_succ]
          go_big_quiet_on
          go_big_quiet_want
          refine ⟨.int .i64 x.1, fun u hu => ?_, ?_⟩
          · obtain ⟨hu0, hu1, hu2, hu3, hu4⟩ := hu
            unfold Oper.quietAt
            go_simp
            refine (src_id).mono ?_
            rintro e u9 ⟨he, r9⟩
            exact ⟨he, KE _ (trans_new hu0 r9)⟩
          simp only [Act.put, List.setIfInBounds_toArray, List.set_cons_zero, List.set_cons_succ]
          go_big_quiet_on
          go_big_quiet_want
          refine ⟨.bool false, fun u hu => ?_, ?_⟩
          · obtain ⟨hu0, hu1, hu2, hu3, hu4⟩ := hu
            unfold Oper.quietAt
            go_simp
            refine (isId_n).mono ?_
            rintro e u9 ⟨he, rfl⟩
            rw [HI.out] at he
            exact ⟨he, KE _ hu0⟩
          simp only [Act.put, List.setIfInBounds_toArray, List.set_cons_zero, List.set_cons_succ]
          go_big_quiet_on
          go_big_quiet_want
          apply Exists.intro
          refine ⟨fun u hu => ?_, ?_⟩
          · obtain ⟨hu0, hu1, hu2, hu3, hu4⟩ := hu
            unfold Oper.quietAt
            go_simp
            try rfl
          simp only [Act.put, List.setIfInBounds_toArray, List.set_cons_zero, List.set_cons_succ]
          go_big_quiet_on
          go_big_quiet_want
          go_big_quiet_op
          go_big_quiet_on
          repeat go_big_quiet_skip
          go_big_quiet_want
          apply Exists.intro
          refine ⟨fun u hu => ?_, ?_⟩
          · obtain ⟨hu0, hu1, hu2, hu3, hu4⟩ := hu
            unfold Oper.quietAt
            go_simp
            try rfl
          simp only [Act.put, List.setIfInBounds_toArray, List.set_cons_zero, List.set_cons_succ]
          go_big_quiet_on
          refine wpQuiet_nil ?_
          rintro u ⟨k9, _⟩
          go_wp2_with fail
          go_ret
          exact ⟨ret_b HV.out.symm, hb2.trans (k9.mono hz2)⟩
      | true =>
        by_cases hk0 : k = 0
        · subst hk0
          have HP := Lib.hid (asc_snoc ha.out (asc_1 HD.out hi))
          have HI := Lib.hid hi
          obtain ⟨W1, hW⟩ : ∃ W1, wr.alloc (Obj.cells #[.int .i64 x.1, .int .i64 x.2.1, .int .i64 x.2.2.1, .bool x.2.2.2] 40) = W1 := ⟨_, rfl⟩
          have bx := Bx.made wr 40 #[.int .i64 x.1, .int .i64 x.2.1, .int .i64 x.2.2.1, .bool x.2.2.2]
          have hb1 : Below wr.heap.size wr (wr.alloc (Obj.cells #[.int .i64 x.1, .int .i64 x.2.1, .int .i64 x.2.2.1, .bool x.2.2.2] 40)) := (Below.refl _ _).alloc (Nat.le_refl _) _
          rw [hW] at bx hb1
          have b0 : W1.cell? ⟨wr.heap.size, 0, none⟩ = some (.int .i64 x.1) := by rw [cell_of_row _ _ _ _ _ _ bx]; rfl
          have b1 : W1.cell? ⟨wr.heap.size, 1, none⟩ = some (.int .i64 x.2.1) := by rw [cell_of_row _ _ _ _ _ _ bx]; rfl
          have b2 : W1.cell? ⟨wr.heap.size, 2, none⟩ = some (.int .i64 x.2.2.1) := by rw [cell_of_row _ _ _ _ _ _ bx]; rfl
          have b3 : W1.cell? ⟨wr.heap.size, 3, none⟩ = some (.bool x.2.2.2) := by rw [cell_of_row _ _ _ _ _ _ bx]; rfl
          have HW := Lib.hid hW
          have hb2 := hb.trans (hb1.mono hb.size)
          have hz2 := hb2.size
          have KE := fun (u : World) (q : Below W1.heap.size W1 u) => show Below W1.heap.size W1 u ∧ u.cell? ⟨wr.heap.size, 0, none⟩ = some (.int .i64 x.1) ∧ u.cell? ⟨wr.heap.size, 1, none⟩ = some (.int .i64 x.2.1) ∧ u.cell? ⟨wr.heap.size, 2, none⟩ = some (.int .i64 x.2.2.1) ∧ u.cell? ⟨wr.heap.size, 3, none⟩ = some (.bool x.2.2.2) from ⟨q, nwc q b0, nwc q b1, nwc q b2, nwc q b3⟩
          clear hi hW bx
          go_wp2_with fail
          rw [HW.out]
          refine wp_region_quiet (C := fun u => Below W1.heap.size W1 u ∧ u.cell? ⟨wr.heap.size, 0, none⟩ = some (.int .i64 x.1) ∧ u.cell? ⟨wr.heap.size, 1, none⟩ = some (.int .i64 x.2.1) ∧ u.cell? ⟨wr.heap.size, 2, none⟩ = some (.int .i64 x.2.2.1) ∧ u.cell? ⟨wr.heap.size, 3, none⟩ = some (.bool x.2.2.2)) (by kernel_rfl) (by kernel_rfl) (KE _ (Below.refl W1.heap.size W1).drew) ?_
          rw [List.toList_toArray]
          go_big_quiet_want
          go_big_quiet_op
          go_big_quiet_on
          go_big_quiet_want
          apply Exists.intro
          refine ⟨fun u hu => ?_, ?_⟩
          · obtain ⟨hu0, hu1, hu2, hu3, hu4⟩ := hu
            unfold Oper.quietAt
            go_simp
            try rfl
          simp only [Act.put, List.setIfInBounds_toArray, List.set_cons_zero, List.set_cons_succ]
          go_big_quiet_on
          go_big_quiet_want
          refine ⟨.int .i64 x.1, fun u hu => ?_, ?_⟩
          · obtain ⟨hu0, hu1, hu2, hu3, hu4⟩ := hu
            unfold Oper.quietAt
            go_simp
            refine (src_id).mono ?_
            rintro e u9 ⟨he, r9⟩
            exact ⟨he, KE _ (trans_new hu0 r9)⟩
          simp only [Act.put, List.setIfInBounds_toArray, List.set_cons_zero, List.set_cons_succ]
          go_big_quiet_on
          go_big_quiet_want
          refine ⟨.bool true, fun u hu => ?_, ?_⟩
          · obtain ⟨hu0, hu1, hu2, hu3, hu4⟩ := hu
            unfold Oper.quietAt
            go_simp
            refine (isId_n).mono ?_
            rintro e u9 ⟨he, rfl⟩
            rw [HI.out] at he
            exact ⟨he, KE _ hu0⟩
          simp only [Act.put, List.setIfInBounds_toArray, List.set_cons_zero, List.set_cons_succ]
          go_big_quiet_on
          go_big_quiet_want
          apply Exists.intro
          refine ⟨fun u hu => ?_, ?_⟩
          · obtain ⟨hu0, hu1, hu2, hu3, hu4⟩ := hu
            unfold Oper.quietAt
            go_simp
            try rfl
          simp only [Act.put, List.setIfInBounds_toArray, List.set_cons_zero, List.set_cons_succ]
          go_big_quiet_on
          go_big_quiet_want
          go_big_quiet_op
          go_big_quiet_on
          go_big_quiet_want
          go_big_quiet_op
          go_big_quiet_on
          go_big_quiet_want
          apply Exists.intro
          refine ⟨fun u hu => ?_, ?_⟩
          · obtain ⟨hu0, hu1, hu2, hu3, hu4⟩ := hu
            unfold Oper.quietAt
            go_simp
            try rfl
          simp only [Act.put, List.setIfInBounds_toArray, List.set_cons_zero, List.set_cons_succ]
          go_big_quiet_on
          go_big_quiet_want
          go_big_quiet_op
          go_big_quiet_on
          repeat go_big_quiet_skip
          go_big_quiet_want
          apply Exists.intro
          refine ⟨fun u hu => ?_, ?_⟩
          · obtain ⟨hu0, hu1, hu2, hu3, hu4⟩ := hu
            unfold Oper.quietAt
            go_simp
            try rfl
          simp only [Act.put, List.setIfInBounds_toArray, List.set_cons_zero, List.set_cons_succ]
          go_big_quiet_on
          go_big_quiet_want
          apply Exists.intro
          refine ⟨fun u hu => ?_, ?_⟩
          · obtain ⟨hu0, hu1, hu2, hu3, hu4⟩ := hu
            unfold Oper.quietAt
            go_simp
            try rfl
          simp only [Act.put, List.setIfInBounds_toArray, List.set_cons_zero, List.set_cons_succ]
          go_big_quiet_on
          refine wpQuiet_nil ?_
          rintro u ⟨k9, _⟩
          go_wp2_with fail
          go_roundw
          case rel => exact ⟨1, by omega, by go_num, HP, hb2.trans (k9.mono hz2)⟩
          case measure => simp [intOf]; omega
        · obtain ⟨j, hj⟩ : ∃ j, k = j + 1 := ⟨k - 1, by omega⟩
          have hk1 : j < X.length := by omega
          have hkj : j < ((X.map (·.1))).length := by omega
          have j0 : (0 : Int) ≤ (j : Int) := by omega
          have j1 : (j : Int) < (n : Int) := by omega
          have hwj : IntKind.i64.wrap ((k : Int) - 1) = (j : Int) := (IntWalk.i64_in ((k : Int) - 1) (by omega)).trans (by omega)
          have hkp : 0 < k := by omega
          have hkp' : (0 : Int) < (k : Int) := by omega
          have dk : decide ((0 : Int) < (k : Int)) = true := decide_eq_true hkp'
          obtain ⟨ad', p', e', hp', hab', g0, g1, g2, g3⟩ := src_cells ((hr.below hb).more hb.size) hk1
          injection e' with e'
          subst e'
          have hDj : ((X.map (·.1))).getD j 0 = X[j].1 := by rw [ascD hkj]; try simp
          obtain ⟨y, hy⟩ : ∃ y, y = X[j] := ⟨_, rfl⟩
          rw [← hy] at g0 g1 g2 g3 hDj
          have HA := Lib.hid (asc_2 HD.out hj hDj hi)
          have HI := Lib.hid hi
          clear hy hDj hj hi
          obtain ⟨W1, hW⟩ : ∃ W1, wr.alloc (Obj.cells #[.int .i64 x.1, .int .i64 x.2.1, .int .i64 x.2.2.1, .bool x.2.2.2] 40) = W1 := ⟨_, rfl⟩
          have bx := Bx.made wr 40 #[.int .i64 x.1, .int .i64 x.2.1, .int .i64 x.2.2.1, .bool x.2.2.2]
          have hb1 : Below wr.heap.size wr (wr.alloc (Obj.cells #[.int .i64 x.1, .int .i64 x.2.1, .int .i64 x.2.2.1, .bool x.2.2.2] 40)) := (Below.refl _ _).alloc (Nat.le_refl _) _
          rw [hW] at bx hb1
          have b0 : W1.cell? ⟨wr.heap.size, 0, none⟩ = some (.int .i64 x.1) := by rw [cell_of_row _ _ _ _ _ _ bx]; rfl
          have b1 : W1.cell? ⟨wr.heap.size, 1, none⟩ = some (.int .i64 x.2.1) := by rw [cell_of_row _ _ _ _ _ _ bx]; rfl
          have b2 : W1.cell? ⟨wr.heap.size, 2, none⟩ = some (.int .i64 x.2.2.1) := by rw [cell_of_row _ _ _ _ _ _ bx]; rfl
          have b3 : W1.cell? ⟨wr.heap.size, 3, none⟩ = some (.bool x.2.2.2) := by rw [cell_of_row _ _ _ _ _ _ bx]; rfl
          have HW := Lib.hid hW
          have hb2 := hb.trans (hb1.mono hb.size)
          have hz2 := hb2.size
          have d0 := nwc hb1 g0
          have d1 := nwc hb1 g1
          have d2 := nwc hb1 g2
          have d3 := nwc hb1 g3
          have KE := fun (u : World) (q : Below W1.heap.size W1 u) => show Below W1.heap.size W1 u ∧ u.cell? ⟨wr.heap.size, 0, none⟩ = some (.int .i64 x.1) ∧ u.cell? ⟨wr.heap.size, 1, none⟩ = some (.int .i64 x.2.1) ∧ u.cell? ⟨wr.heap.size, 2, none⟩ = some (.int .i64 x.2.2.1) ∧ u.cell? ⟨wr.heap.size, 3, none⟩ = some (.bool x.2.2.2) ∧ u.cell? p' = some (.int .i64 y.1) ∧ u.cell? ⟨p'.block, p'.off + 1, none⟩ = some (.int .i64 y.2.1) ∧ u.cell? ⟨p'.block, p'.off + 2, none⟩ = some (.int .i64 y.2.2.1) ∧ u.cell? ⟨p'.block, p'.off + 3, none⟩ = some (.bool y.2.2.2) from ⟨q, nwc q b0, nwc q b1, nwc q b2, nwc q b3, nwc q d0, nwc q d1, nwc q d2, nwc q d3⟩
          clear hW bx
          by_cases hxy : y.1 < x.1
          · have HP := Lib.hid (asc_snoc ha.out (HA.out.trans (decide_eq_true hxy)))
            have e1 : decide (x.1 ≤ y.1) = false := decide_eq_false (by omega)
            go_wp2_with fail
            rw [HW.out]
            refine wp_region_quiet (C := fun u => Below W1.heap.size W1 u ∧ u.cell? ⟨wr.heap.size, 0, none⟩ = some (.int .i64 x.1) ∧ u.cell? ⟨wr.heap.size, 1, none⟩ = some (.int .i64 x.2.1) ∧ u.cell? ⟨wr.heap.size, 2, none⟩ = some (.int .i64 x.2.2.1) ∧ u.cell? ⟨wr.heap.size, 3, none⟩ = some (.bool x.2.2.2) ∧ u.cell? p' = some (.int .i64 y.1) ∧ u.cell? ⟨p'.block, p'.off + 1, none⟩ = some (.int .i64 y.2.1) ∧ u.cell? ⟨p'.block, p'.off + 2, none⟩ = some (.int .i64 y.2.2.1) ∧ u.cell? ⟨p'.block, p'.off + 3, none⟩ = some (.bool y.2.2.2)) (by kernel_rfl) (by kernel_rfl) (KE _ (Below.refl W1.heap.size W1).drew) ?_
            rw [List.toList_toArray]
            go_big_quiet_want
            go_big_quiet_op
            go_big_quiet_on
            go_big_quiet_want
            apply Exists.intro
            refine ⟨fun u hu => ?_, ?_⟩
            · obtain ⟨hu0, hu1, hu2, hu3, hu4, hu5, hu6, hu7, hu8⟩ := hu
              unfold Oper.quietAt
              go_simp
              try rfl
            simp only [Act.put, List.setIfInBounds_toArray, List.set_cons_zero, List.set_cons_succ]
            go_big_quiet_on
            go_big_quiet_want
            refine ⟨.int .i64 x.1, fun u hu => ?_, ?_⟩
            · obtain ⟨hu0, hu1, hu2, hu3, hu4, hu5, hu6, hu7, hu8⟩ := hu
              unfold Oper.quietAt
              go_simp
              refine (src_id).mono ?_
              rintro e u9 ⟨he, r9⟩
              exact ⟨he, KE _ (trans_new hu0 r9)⟩
            simp only [Act.put, List.setIfInBounds_toArray, List.set_cons_zero, List.set_cons_succ]
            go_big_quiet_on
            go_big_quiet_want
            refine ⟨.bool true, fun u hu => ?_, ?_⟩
            · obtain ⟨hu0, hu1, hu2, hu3, hu4, hu5, hu6, hu7, hu8⟩ := hu
              unfold Oper.quietAt
              go_simp
              refine (isId_n).mono ?_
              rintro e u9 ⟨he, rfl⟩
              rw [HI.out] at he
              exact ⟨he, KE _ hu0⟩
            simp only [Act.put, List.setIfInBounds_toArray, List.set_cons_zero, List.set_cons_succ]
            go_big_quiet_on
            go_big_quiet_want
            apply Exists.intro
            refine ⟨fun u hu => ?_, ?_⟩
            · obtain ⟨hu0, hu1, hu2, hu3, hu4, hu5, hu6, hu7, hu8⟩ := hu
              unfold Oper.quietAt
              go_simp
              try rfl
            simp only [Act.put, List.setIfInBounds_toArray, List.set_cons_zero, List.set_cons_succ]
            go_big_quiet_on
            go_big_quiet_want
            go_big_quiet_op
            go_big_quiet_on
            go_big_quiet_want
            go_big_quiet_op
            go_big_quiet_on
            go_big_quiet_want
            apply Exists.intro
            refine ⟨fun u hu => ?_, ?_⟩
            · obtain ⟨hu0, hu1, hu2, hu3, hu4, hu5, hu6, hu7, hu8⟩ := hu
              unfold Oper.quietAt
              go_simp
              try rfl
            simp only [Act.put, List.setIfInBounds_toArray, List.set_cons_zero, List.set_cons_succ]
            go_big_quiet_on
            go_big_quiet_want
            go_big_quiet_op
            go_big_quiet_on
            go_big_quiet_want
            go_big_quiet_op
            go_big_quiet_on
            go_big_quiet_want
            apply Exists.intro
            refine ⟨fun u hu => ?_, ?_⟩
            · obtain ⟨hu0, hu1, hu2, hu3, hu4, hu5, hu6, hu7, hu8⟩ := hu
              unfold Oper.quietAt
              go_simp
              try rfl
            simp only [Act.put, List.setIfInBounds_toArray, List.set_cons_zero, List.set_cons_succ]
            go_big_quiet_on
            go_big_quiet_want
            refine ⟨.int .i64 x.1, fun u hu => ?_, ?_⟩
            · obtain ⟨hu0, hu1, hu2, hu3, hu4, hu5, hu6, hu7, hu8⟩ := hu
              unfold Oper.quietAt
              go_simp
              refine (src_id).mono ?_
              rintro e u9 ⟨he, r9⟩
              exact ⟨he, KE _ (trans_new hu0 r9)⟩
            simp only [Act.put, List.setIfInBounds_toArray, List.set_cons_zero, List.set_cons_succ]
            go_big_quiet_on
            go_big_quiet_want
            go_big_quiet_op
            go_big_quiet_on
            go_big_quiet_want
            go_big_quiet_op
            go_big_quiet_on
            go_big_quiet_want
            go_big_quiet_op
            go_big_quiet_on
            go_big_quiet_want
            apply Exists.intro
            refine ⟨fun u hu => ?_, ?_⟩
            · obtain ⟨hu0, hu1, hu2, hu3, hu4, hu5, hu6, hu7, hu8⟩ := hu
              unfold Oper.quietAt
              go_simp
              try rfl
            simp only [Act.put, List.setIfInBounds_toArray, List.set_cons_zero, List.set_cons_succ]
            go_big_quiet_on
            go_big_quiet_want
            apply Exists.intro
            refine ⟨fun u hu => ?_, ?_⟩
            · obtain ⟨hu0, hu1, hu2, hu3, hu4, hu5, hu6, hu7, hu8⟩ := hu
              unfold Oper.quietAt
              go_simp
              try rfl
            simp only [Act.put, List.setIfInBounds_toArray, List.set_cons_zero, List.set_cons_succ]
            go_big_quiet_on
            go_big_quiet_want
            apply Exists.intro
            refine ⟨fun u hu => ?_, ?_⟩
            · obtain ⟨hu0, hu1, hu2, hu3, hu4, hu5, hu6, hu7, hu8⟩ := hu
              unfold Oper.quietAt
              go_simp
              try rfl
            simp only [Act.put, List.setIfInBounds_toArray, List.set_cons_zero, List.set_cons_succ]
            go_big_quiet_on
            go_big_quiet_want
            refine ⟨.int .i64 y.1, fun u hu => ?_, ?_⟩
            · obtain ⟨hu0, hu1, hu2, hu3, hu4, hu5, hu6, hu7, hu8⟩ := hu
              unfold Oper.quietAt
              go_simp
              refine (src_id).mono ?_
              rintro e u9 ⟨he, r9⟩
              exact ⟨he, KE _ (trans_new hu0 r9)⟩
            simp only [Act.put, List.setIfInBounds_toArray, List.set_cons_zero, List.set_cons_succ]
            go_big_quiet_on
            go_big_quiet_want
            apply Exists.intro
            refine ⟨fun u hu => ?_, ?_⟩
            · obtain ⟨hu0, hu1, hu2, hu3, hu4, hu5, hu6, hu7, hu8⟩ := hu
              unfold Oper.quietAt
              go_simp
              try rfl
            simp only [Act.put, List.setIfInBounds_toArray, List.set_cons_zero, List.set_cons_succ]
            go_big_quiet_on
            go_big_quiet_want
            apply Exists.intro
            refine ⟨fun u hu => ?_, ?_⟩
            · obtain ⟨hu0, hu1, hu2, hu3, hu4, hu5, hu6, hu7, hu8⟩ := hu
              unfold Oper.quietAt
              go_simp
              try rfl
            simp only [Act.put, List.setIfInBounds_toArray, List.set_cons_zero, List.set_cons_succ]
            go_big_quiet_on
            go_big_quiet_want
            apply Exists.intro
            refine ⟨fun u hu => ?_, ?_⟩
            · obtain ⟨hu0, hu1, hu2, hu3, hu4, hu5, hu6, hu7, hu8⟩ := hu
              unfold Oper.quietAt
              go_simp
              try rfl
            simp only [Act.put, List.setIfInBounds_toArray, List.set_cons_zero, List.set_cons_succ]
            go_big_quiet_on
            refine wpQuiet_nil ?_
            rintro u ⟨k9, _⟩
            go_wp2_with fail
            go_roundw
            case rel => exact ⟨k + 1, by omega, by go_num, HP, hb2.trans (k9.mono hz2)⟩
            case measure => simp [intOf]; omega
          · have HV := Lib.hid (asc_no hki (HA.out.trans (decide_eq_false hxy)))
            have e1 : decide (x.1 ≤ y.1) = true := decide_eq_true (by omega)
            go_wp2_with fail
            rw [HW.out]
            refine wp_region_quiet (C := fun u => Below W1.heap.size W1 u ∧ u.cell? ⟨wr.heap.size, 0, none⟩ = some (.int .i64 x.1) ∧ u.cell? ⟨wr.heap.size, 1, none⟩ = some (.int .i64 x.2.1) ∧ u.cell? ⟨wr.heap.size, 2, none⟩ = some (.int .i64 x.2.2.1) ∧ u.cell? ⟨wr.heap.size, 3, none⟩ = some (.bool x.2.2.2) ∧ u.cell? p' = some (.int .i64 y.1) ∧ u.cell? ⟨p'.block, p'.off + 1, none⟩ = some (.int .i64 y.2.1) ∧ u.cell? ⟨p'.block, p'.off + 2, none⟩ = some (.int .i64 y.2.2.1) ∧ u.cell? ⟨p'.block, p'.off + 3, none⟩ = some (.bool y.2.2.2)) (by kernel_rfl) (by kernel_rfl) (KE _ (Below.refl W1.heap.size W1).drew) ?_
            rw [List.toList_toArray]
            go_big_quiet_want
            go_big_quiet_op
            go_big_quiet_on
            go_big_quiet_want
            apply Exists.intro
            refine ⟨fun u hu => ?_, ?_⟩
            · obtain ⟨hu0, hu1, hu2, hu3, hu4, hu5, hu6, hu7, hu8⟩ := hu
              unfold Oper.quietAt
              go_simp
              try rfl
            simp only [Act.put, List.setIfInBounds_toArray, List.set_cons_zero, List.set_cons_succ]
            go_big_quiet_on
            go_big_quiet_want
            refine ⟨.int .i64 x.1, fun u hu => ?_, ?_⟩
            · obtain ⟨hu0, hu1, hu2, hu3, hu4, hu5, hu6, hu7, hu8⟩ := hu
              unfold Oper.quietAt
              go_simp
              refine (src_id).mono ?_
              rintro e u9 ⟨he, r9⟩
              exact ⟨he, KE _ (trans_new hu0 r9)⟩
            simp only [Act.put, List.setIfInBounds_toArray, List.set_cons_zero, List.set_cons_succ]
            go_big_quiet_on
            go_big_quiet_want
            refine ⟨.bool true, fun u hu => ?_, ?_⟩
            · obtain ⟨hu0, hu1, hu2, hu3, hu4, hu5, hu6, hu7, hu8⟩ := hu
              unfold Oper.quietAt
              go_simp
              refine (isId_n).mono ?_
              rintro e u9 ⟨he, rfl⟩
              rw [HI.out] at he
              exact ⟨he, KE _ hu0⟩
            simp only [Act.put, List.setIfInBounds_toArray, List.set_cons_zero, List.set_cons_succ]
            go_big_quiet_on
            go_big_quiet_want
            apply Exists.intro
            refine ⟨fun u hu => ?_, ?_⟩
            · obtain ⟨hu0, hu1, hu2, hu3, hu4, hu5, hu6, hu7, hu8⟩ := hu
              unfold Oper.quietAt
              go_simp
              try rfl
            simp only [Act.put, List.setIfInBounds_toArray, List.set_cons_zero, List.set_cons_succ]
            go_big_quiet_on
            go_big_quiet_want
            go_big_quiet_op
            go_big_quiet_on
            go_big_quiet_want
            go_big_quiet_op
            go_big_quiet_on
            go_big_quiet_want
            apply Exists.intro
            refine ⟨fun u hu => ?_, ?_⟩
            · obtain ⟨hu0, hu1, hu2, hu3, hu4, hu5, hu6, hu7, hu8⟩ := hu
              unfold Oper.quietAt
              go_simp
              try rfl
            simp only [Act.put, List.setIfInBounds_toArray, List.set_cons_zero, List.set_cons_succ]
            go_big_quiet_on
            go_big_quiet_want
            go_big_quiet_op
            go_big_quiet_on
            go_big_quiet_want
            go_big_quiet_op
            go_big_quiet_on
            go_big_quiet_want
            apply Exists.intro
            refine ⟨fun u hu => ?_, ?_⟩
            · obtain ⟨hu0, hu1, hu2, hu3, hu4, hu5, hu6, hu7, hu8⟩ := hu
              unfold Oper.quietAt
              go_simp
              try rfl
            simp only [Act.put, List.setIfInBounds_toArray, List.set_cons_zero, List.set_cons_succ]
            go_big_quiet_on
            go_big_quiet_want
            refine ⟨.int .i64 x.1, fun u hu => ?_, ?_⟩
            · obtain ⟨hu0, hu1, hu2, hu3, hu4, hu5, hu6, hu7, hu8⟩ := hu
              unfold Oper.quietAt
              go_simp
              refine (src_id).mono ?_
              rintro e u9 ⟨he, r9⟩
              exact ⟨he, KE _ (trans_new hu0 r9)⟩
            simp only [Act.put, List.setIfInBounds_toArray, List.set_cons_zero, List.set_cons_succ]
            go_big_quiet_on
            go_big_quiet_want
            go_big_quiet_op
            go_big_quiet_on
            go_big_quiet_want
            go_big_quiet_op
            go_big_quiet_on
            go_big_quiet_want
            go_big_quiet_op
            go_big_quiet_on
            go_big_quiet_want
            apply Exists.intro
            refine ⟨fun u hu => ?_, ?_⟩
            · obtain ⟨hu0, hu1, hu2, hu3, hu4, hu5, hu6, hu7, hu8⟩ := hu
              unfold Oper.quietAt
              go_simp
              try rfl
            simp only [Act.put, List.setIfInBounds_toArray, List.set_cons_zero, List.set_cons_succ]
            go_big_quiet_on
            go_big_quiet_want
            apply Exists.intro
            refine ⟨fun u hu => ?_, ?_⟩
            · obtain ⟨hu0, hu1, hu2, hu3, hu4, hu5, hu6, hu7, hu8⟩ := hu
              unfold Oper.quietAt
              go_simp
              try rfl
            simp only [Act.put, List.setIfInBounds_toArray, List.set_cons_zero, List.set_cons_succ]
            go_big_quiet_on
            go_big_quiet_want
            apply Exists.intro
            refine ⟨fun u hu => ?_, ?_⟩
            · obtain ⟨hu0, hu1, hu2, hu3, hu4, hu5, hu6, hu7, hu8⟩ := hu
              unfold Oper.quietAt
              go_simp
              try rfl
            simp only [Act.put, List.setIfInBounds_toArray, List.set_cons_zero, List.set_cons_succ]
            go_big_quiet_on
            go_big_quiet_want
            refine ⟨.int .i64 y.1, fun u hu => ?_, ?_⟩
            · obtain ⟨hu0, hu1, hu2, hu3, hu4, hu5, hu6, hu7, hu8⟩ := hu
              unfold Oper.quietAt
              go_simp
              refine (src_id).mono ?_
              rintro e u9 ⟨he, r9⟩
              exact ⟨he, KE _ (trans_new hu0 r9)⟩
            simp only [Act.put, List.setIfInBounds_toArray, List.set_cons_zero, List.set_cons_succ]
            go_big_quiet_on
            go_big_quiet_want
            apply Exists.intro
            refine ⟨fun u hu => ?_, ?_⟩
            · obtain ⟨hu0, hu1, hu2, hu3, hu4, hu5, hu6, hu7, hu8⟩ := hu
              unfold Oper.quietAt
              go_simp
              try rfl
            simp only [Act.put, List.setIfInBounds_toArray, List.set_cons_zero, List.set_cons_succ]
            go_big_quiet_on
            go_big_quiet_want
            apply Exists.intro
            refine ⟨fun u hu => ?_, ?_⟩
            · obtain ⟨hu0, hu1, hu2, hu3, hu4, hu5, hu6, hu7, hu8⟩ := hu
              unfold Oper.quietAt
              go_simp
              try rfl
            simp only [Act.put, List.setIfInBounds_toArray, List.set_cons_zero, List.set_cons_succ]
            go_big_quiet_on
            go_big_quiet_want
            apply Exists.intro
            refine ⟨fun u hu => ?_, ?_⟩
            · obtain ⟨hu0, hu1, hu2, hu3, hu4, hu5, hu6, hu7, hu8⟩ := hu
              unfold Oper.quietAt
              go_simp
              try rfl
            simp only [Act.put, List.setIfInBounds_toArray, List.set_cons_zero, List.set_cons_succ]
            go_big_quiet_on
            refine wpQuiet_nil ?_
            rintro u ⟨k9, _⟩
            go_wp2_with fail
            go_ret
            exact ⟨ret_b HV.out.symm, hb2.trans (k9.mono hz2)⟩
    · have e : k = n := by omega
      subst e
      have HV := Lib.hid (asc_end HL.out ha.out)
      go_wp2_with fail
      go_ret
      exact ⟨ret_b HV.out.symm, hb⟩
end Go.Proofs.Ytdhnhhicjjcmdaa
