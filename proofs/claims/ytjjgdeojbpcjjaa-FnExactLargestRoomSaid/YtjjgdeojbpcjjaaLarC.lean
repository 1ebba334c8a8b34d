/- Contracts of the code's slices.MinFunc at rooms and LargestRoom. Condition: the slice has at most 2^40 elements. -/
import Derived.Test.YtjjgdeojbpcjjaaLarMath
import Derived.Test.YtjjgdeojbpcjjaaRooC
import Derived.BigQuiet
import Derived.Deep.Quiet
namespace Go.Proofs.Ytjjgdeojbpcjjaa
open Go.ChangeShapes Go.WideShapes Go.ChangeAt Go.RowKit
set_option maxRecDepth 100000
set_option maxHeartbeats 4000000 in
theorem minRoom_any {w : World} {A : Option Addr} {n c : Nat} {X : List T2} (hl : Hid (X.length = n)) (h1n : 1 ≤ n) (hn : n ≤ 1099511627776) (hr : Rd w w.heap.size A (t2s X)) :
    Calls Try.prog 117 #[.slice A n c, .func (.func 118) #[] #[]] w (fun e w' => e = .returned (.agg #[.int .i64 (minR X n).1, .int .i64 (minR X n).2]) ∧ Below w.heap.size w w') := by
  have hkz0 : 0 < X.length := by rw [hl.out]; omega
  obtain ⟨ad, p, rfl, hp, hab, h0, h1⟩ := t2_cells hr hkz0
  rw [Nat.zero_mul] at hp
  have hpp : ad = p := by rw [← hp]; simp [Addr.add]
  subst hpp
  clear hp
  have hM := Lib.hid ((minR_one X).trans (rD hkz0))
  obtain ⟨m, hm⟩ : ∃ m, m = X[0] := ⟨_, rfl⟩
  rw [← hm] at h0 h1 hM
  have n0 : ¬ (n : Int) < 1 := by omega
  have n1 : (0 : Int) < (n : Int) := by omega
  have hb2 : Below w.heap.size w ((w.alloc (Obj.cells #[Value.int .i64 0, .int .i64 0] 131)).alloc (Obj.cells #[Value.int .i64 m.1, .int .i64 m.2] 131)) := ((Below.refl _ _).alloc (Nat.le_refl _) _).alloc (by rw [World.size_alloc]; omega) _
  have bz := (Bx.made w 131 #[Value.int .i64 0, .int .i64 0]).new ((Below.refl (w.alloc (Obj.cells #[Value.int .i64 0, .int .i64 0] 131)).heap.size (w.alloc (Obj.cells #[Value.int .i64 0, .int .i64 0] 131))).alloc (Nat.le_refl _) (Obj.cells #[Value.int .i64 m.1, .int .i64 m.2] 131))
  have bm : Bx ((w.alloc (Obj.cells #[Value.int .i64 0, .int .i64 0] 131)).alloc (Obj.cells #[Value.int .i64 m.1, .int .i64 m.2] 131)) (w.heap.size + 1) 131 #[Value.int .i64 m.1, .int .i64 m.2] := by
    have h := Bx.made (w.alloc (Obj.cells #[Value.int .i64 0, .int .i64 0] 131)) 131 #[Value.int .i64 m.1, .int .i64 m.2]
    simp only [World.size_alloc] at h
    exact h
  obtain ⟨W2, hW⟩ : ∃ W2, (w.alloc (Obj.cells #[Value.int .i64 0, .int .i64 0] 131)).alloc (Obj.cells #[Value.int .i64 m.1, .int .i64 m.2] 131) = W2 := ⟨_, rfl⟩
  rw [hW] at hb2 bz bm
  have HW := Lib.hid hW
  have HB0 := Lib.hid (And.intro hb2 (And.intro bz bm))
  clear hm hW hb2 bz bm
  go_enter Try.func117, Try.ntmps117
  go_wp2_with fail
  rw [HW.out]
  clear h0 h1 hab
  go_loopw [6] (fun i wr => ∃ (k : Nat) (y : T2), 1 ≤ k ∧ k ≤ n ∧ i = .int .i64 k ∧ Hid (minR X k = y) ∧ Hid (Below w.heap.size w wr ∧ Bx wr w.heap.size 131 #[Value.int .i64 0, .int .i64 0] ∧ Bx wr (w.heap.size + 1) 131 #[Value.int .i64 y.1, .int .i64 y.2])) (fun i _ => n - (intOf i).toNat)
  case atStart => exact ⟨1, m, Nat.le_refl _, h1n, rfl, hM, HB0⟩
  case round =>
    obtain ⟨k, y, hk1, hk, rfl, hy, hb⟩ := hrel
    obtain ⟨hbw, hbz, hbm⟩ := hb.out
    have hsz := hbw.size
    by_cases hlt : k < n
    · have hkz : k < X.length := by rw [hl.out]; exact hlt
      obtain ⟨ad2, p, e2, hp, hab, h0, h1⟩ := t2_cells ((hr.below hbw).more hsz) hkz
      injection e2 with e2
      subst e2
      have hD := rD hkz
      obtain ⟨x, hx⟩ : ∃ x, x = X[k] := ⟨_, rfl⟩
      rw [← hx] at h0 h1 hD
      have HD := Lib.hid hD
      have i0 : (0 : Int) ≤ (k : Int) := by omega
      have i1 : (k : Int) < (n : Int) := by omega
      have y0 := hbm.at_ (k := 0) (v := .int .i64 y.1) rfl
      have y1 := hbm.at_ (k := 1) (v := .int .i64 y.2) rfl
      have HBM := Lib.hid (And.intro hbw (And.intro hbz hbm))
      have KE := fun (u : World) (q : Below wr.heap.size wr u) => show Below wr.heap.size wr u ∧ u.cell? p = some (.int .i64 x.1) ∧ u.cell? ⟨p.block, p.off + 1, none⟩ = some (.int .i64 x.2) ∧ u.cell? ⟨w.heap.size + 1, 0, none⟩ = some (.int .i64 y.1) ∧ u.cell? ⟨w.heap.size + 1, 1, none⟩ = some (.int .i64 y.2) from ⟨q, nwc q h0, nwc q h1, nwc q y0, nwc q y1⟩
      clear hx hD hbw hbz hbm hb
      obtain ⟨r, hre⟩ : ∃ r, rcmp x y = r := ⟨_, rfl⟩
      have HR := Lib.hid hre
      by_cases hneg : r < 0
      · have HV := Lib.hid (minR_lt HD.out hy.out (by rw [hre]; exact hneg))
        have d1 : decide (r < 0) = true := decide_eq_true hneg
        clear hre
        go_wp2_with fail
        refine wp_region_quiet (C := fun u => Below wr.heap.size wr u ∧ u.cell? p = some (.int .i64 x.1) ∧ u.cell? ⟨p.block, p.off + 1, none⟩ = some (.int .i64 x.2) ∧ u.cell? ⟨w.heap.size + 1, 0, none⟩ = some (.int .i64 y.1) ∧ u.cell? ⟨w.heap.size + 1, 1, none⟩ = some (.int .i64 y.2)) (by kernel_rfl) (by kernel_rfl) (KE _ (Below.refl wr.heap.size wr).drew) ?_
        rw [List.toList_toArray]
        go_big_quiet_want
        go_big_quiet_op
        go_big_quiet_on
        go_big_quiet_want
        go_big_quiet_op
        go_big_quiet_on
        go_big_quiet_want
        go_big_quiet_op
        go_big_quiet_on
        go_big_quiet_want
        apply Exists.intro
        refine ⟨fun u hu => ?_, ?_⟩
        · obtain ⟨hu0, hu1, hu2, hu3, hu4⟩ := hu
          unfold Oper.quietAt
          go_simp
          try rfl
        simp only [Act.put, List.setIfInBounds_toArray, List.set_cons_zero, List.set_cons_succ]
        go_big_quiet_on
        go_big_quiet_want
        apply Exists.intro
        refine ⟨fun u hu => ?_, ?_⟩
        · obtain ⟨hu0, hu1, hu2, hu3, hu4⟩ := hu
          unfold Oper.quietAt
          go_simp
          try rfl
        simp only [Act.put, List.setIfInBounds_toArray, List.set_cons_zero, List.set_cons_succ]
        go_big_quiet_on
        go_big_quiet_want
        apply Exists.intro
        refine ⟨fun u hu => ?_, ?_⟩
        · obtain ⟨hu0, hu1, hu2, hu3, hu4⟩ := hu
          unfold Oper.quietAt
          go_simp
          try rfl
        simp only [Act.put, List.setIfInBounds_toArray, List.set_cons_zero, List.set_cons_succ]
        go_big_quiet_on
        go_big_quiet_want
        refine ⟨.int .i64 r, fun u hu => ?_, ?_⟩
        · obtain ⟨hu0, hu1, hu2, hu3, hu4⟩ := hu
          unfold Oper.quietAt
          go_simp
          refine (rcmp_any).mono ?_
          rintro e u9 ⟨he, r9⟩
          rw [HR.out] at he
          exact ⟨he, KE _ (trans_new hu0 r9)⟩
        simp only [Act.put, List.setIfInBounds_toArray, List.set_cons_zero, List.set_cons_succ]
        go_big_quiet_on
        go_big_quiet_want
        apply Exists.intro
        refine ⟨fun u hu => ?_, ?_⟩
        · obtain ⟨hu0, hu1, hu2, hu3, hu4⟩ := hu
          unfold Oper.quietAt
          go_simp
          try rfl
        simp only [Act.put, List.setIfInBounds_toArray, List.set_cons_zero, List.set_cons_succ]
        go_big_quiet_on
        refine wpQuiet_nil ?_
        rintro u ⟨k9, z0, z1, z2, z3⟩
        obtain ⟨hbw, hbz, hbm⟩ := HBM.out
        have hz2 := hbz.new k9
        have hm2 := hbm.new k9
        have g0 := hm2.free 0
        have g1 := (hm2.set 0 (.int .i64 x.1)).free 1
        have g2 := (hm2.set 0 (.int .i64 x.1)).at_ (k := 1) (v := .int .i64 y.2) rfl
        have HE := Lib.hid (show Below w.heap.size w ((u.setCell ⟨w.heap.size + 1, 0, none⟩ (.int .i64 x.1)).setCell ⟨w.heap.size + 1, 1, none⟩ (.int .i64 x.2)) ∧ Bx ((u.setCell ⟨w.heap.size + 1, 0, none⟩ (.int .i64 x.1)).setCell ⟨w.heap.size + 1, 1, none⟩ (.int .i64 x.2)) w.heap.size 131 #[Value.int .i64 0, .int .i64 0] ∧ Bx ((u.setCell ⟨w.heap.size + 1, 0, none⟩ (.int .i64 x.1)).setCell ⟨w.heap.size + 1, 1, none⟩ (.int .i64 x.2)) (w.heap.size + 1) 131 #[Value.int .i64 x.1, .int .i64 x.2] from
          ⟨((hbw.trans (k9.mono hsz)).setCell (show w.heap.size ≤ w.heap.size + 1 by omega) _).setCell (show w.heap.size ≤ w.heap.size + 1 by omega) _, (hz2.far (p := ⟨w.heap.size + 1, 0, none⟩) (by show w.heap.size ≠ w.heap.size + 1; omega) _).far (p := ⟨w.heap.size + 1, 1, none⟩) (by show w.heap.size ≠ w.heap.size + 1; omega) _, (hm2.set 0 (.int .i64 x.1)).set 1 (.int .i64 x.2)⟩)
        clear hbw hbz hbm hz2 hm2
        go_wp2_with fail
        go_roundw
        case rel => exact ⟨k + 1, x, by omega, by omega, by go_num, HV, HE⟩
        case measure => simp [intOf]; omega
      · have HV := Lib.hid (minR_ge HD.out hy.out (by rw [hre]; exact hneg))
        have d1 : decide (r < 0) = false := decide_eq_false hneg
        clear hre
        go_wp2_with fail
        refine wp_region_quiet (C := fun u => Below wr.heap.size wr u ∧ u.cell? p = some (.int .i64 x.1) ∧ u.cell? ⟨p.block, p.off + 1, none⟩ = some (.int .i64 x.2) ∧ u.cell? ⟨w.heap.size + 1, 0, none⟩ = some (.int .i64 y.1) ∧ u.cell? ⟨w.heap.size + 1, 1, none⟩ = some (.int .i64 y.2)) (by kernel_rfl) (by kernel_rfl) (KE _ (Below.refl wr.heap.size wr).drew) ?_
        rw [List.toList_toArray]
        go_big_quiet_want
        go_big_quiet_op
        go_big_quiet_on
        go_big_quiet_want
        go_big_quiet_op
        go_big_quiet_on
        go_big_quiet_want
        go_big_quiet_op
        go_big_quiet_on
        go_big_quiet_want
        apply Exists.intro
        refine ⟨fun u hu => ?_, ?_⟩
        · obtain ⟨hu0, hu1, hu2, hu3, hu4⟩ := hu
          unfold Oper.quietAt
          go_simp
          try rfl
        simp only [Act.put, List.setIfInBounds_toArray, List.set_cons_zero, List.set_cons_succ]
        go_big_quiet_on
        go_big_quiet_want
        apply Exists.intro
        refine ⟨fun u hu => ?_, ?_⟩
        · obtain ⟨hu0, hu1, hu2, hu3, hu4⟩ := hu
          unfold Oper.quietAt
          go_simp
          try rfl
        simp only [Act.put, List.setIfInBounds_toArray, List.set_cons_zero, List.set_cons_succ]
        go_big_quiet_on
        go_big_quiet_want
        apply Exists.intro
        refine ⟨fun u hu => ?_, ?_⟩
        · obtain ⟨hu0, hu1, hu2, hu3, hu4⟩ := hu
          unfold Oper.quietAt
          go_simp
          try rfl
        simp only [Act.put, List.setIfInBounds_toArray, List.set_cons_zero, List.set_cons_succ]
        go_big_quiet_on
        go_big_quiet_want
        refine ⟨.int .i64 r, fun u hu => ?_, ?_⟩
        · obtain ⟨hu0, hu1, hu2, hu3, hu4⟩ := hu
          unfold Oper.quietAt
          go_simp
          refine (rcmp_any).mono ?_
          rintro e u9 ⟨he, r9⟩
          rw [HR.out] at he
          exact ⟨he, KE _ (trans_new hu0 r9)⟩
        simp only [Act.put, List.setIfInBounds_toArray, List.set_cons_zero, List.set_cons_succ]
        go_big_quiet_on
        go_big_quiet_want
        apply Exists.intro
        refine ⟨fun u hu => ?_, ?_⟩
        · obtain ⟨hu0, hu1, hu2, hu3, hu4⟩ := hu
          unfold Oper.quietAt
          go_simp
          try rfl
        simp only [Act.put, List.setIfInBounds_toArray, List.set_cons_zero, List.set_cons_succ]
        go_big_quiet_on
        refine wpQuiet_nil ?_
        rintro u ⟨k9, _⟩
        have HE := Lib.hid (And.intro (HBM.out.1.trans (k9.mono hsz)) (And.intro (HBM.out.2.1.new k9) (HBM.out.2.2.new k9)))
        go_wp2_with fail
        go_roundw
        case rel => exact ⟨k + 1, y, by omega, by omega, by go_num, HV, HE⟩
        case measure => simp [intOf]; omega
    · have e : k = n := by omega
      subst e
      have y0 := hbm.at_ (k := 0) (v := .int .i64 y.1) rfl
      have y1 := hbm.at_ (k := 1) (v := .int .i64 y.2) rfl
      have g0 := hbz.free 0
      have g1 := (hbz.set 0 (.int .i64 y.1)).free 1
      have g3 := hbz.at_ (k := 0) (v := .int .i64 0) rfl
      have g2 := (hbz.set 0 (.int .i64 y.1)).at_ (k := 1) (v := .int .i64 0) rfl
      have bN := (hbz.set 0 (.int .i64 y.1)).set 1 (.int .i64 y.2)
      have e0 := bN.at_ (k := 0) (v := .int .i64 y.1) rfl
      have e1 := bN.at_ (k := 1) (v := .int .i64 y.2) rfl
      have HE := Lib.hid ((hbw.setCell (p := ⟨w.heap.size, 0, none⟩) (Nat.le_refl _) (.int .i64 y.1)).setCell (p := ⟨w.heap.size, 1, none⟩) (Nat.le_refl _) (.int .i64 y.2))
      clear hbw hbz hbm hb bN
      go_wp2_with fail
      refine bodyPost_ret (v := .agg #[.int .i64 y.1, .int .i64 y.2]) (by simp [results, Try.results117, go_sem, e0, e1]) rfl ⟨by rw [hy.out], HE.out⟩
set_option maxHeartbeats 2000000 in
theorem impLargestRoom_any {w : World} {A : Option Addr} {n c : Nat} {X : List T2} (hl : Hid (X.length = n)) (hn : n ≤ 1099511627776) (hr : Rd w w.heap.size A (t2s X)) :
    Calls Try.prog 59 #[.slice A n c] w (fun e w' => e = .returned (.int .i64 (larI X)) ∧ Below w.heap.size w w') := by
  by_cases hz : n = 0
  · subst hz
    have HV := Lib.hid (lar_nil hl.out)
    go_enter Try.func59, Try.ntmps59
    go_wp2_with fail
    go_ret
    exact ⟨ret_i HV.out.symm, Below.refl _ _⟩
  have hz0 : ¬ (n : Int) = 0 := by omega
  have hz1 : ((n : Int) == 0) = false := by simpa using hz0
  cases hB : roB X with
  | false =>
    have HV := Lib.hid (lar_no hB)
    have HB := Lib.hid hB
    clear hB
    go_enter Try.func59, Try.ntmps59
    go_wp2_with fail
    refine (impAreRooms_any hl hn hr).mono ?_
    rintro e w1 ⟨rfl, hb1⟩
    rw [HB.out]
    go_wp2_with fail
    go_ret
    exact ⟨ret_i HV.out.symm, hb1⟩
  | true =>
    have HV := Lib.hid (lar_yes hB)
    have HB := Lib.hid hB
    clear hB
    go_enter Try.func59, Try.ntmps59
    go_wp2_with fail
    refine (impAreRooms_any hl hn hr).mono ?_
    rintro e w1 ⟨rfl, hb1⟩
    rw [HB.out]
    have hr1 := (hr.below hb1).more hb1.size
    obtain ⟨y, hy⟩ : ∃ y, minR X n = y := ⟨_, rfl⟩
    have HY := Lib.hid hy
    have hfd : ∀ W : World, (Instr.field 131 (.agg #[.int .i64 y.1, .int .i64 y.2]) 0).run Try.prog W = .ok (.int .i64 y.1) W := fun _ => by kernel_rfl
    clear hy
    go_wp2_with fail
    refine (minRoom_any hl (by omega) hn hr1).mono ?_
    rintro e w2 ⟨rfl, hb2⟩
    rw [HY.out]
    go_wp2_with fail
    go_ret
    exact ⟨ret_i (by rw [HV.out, hl.out, HY.out]), hb1.trans (hb2.mono hb1.size)⟩
end Go.Proofs.Ytjjgdeojbpcjjaa
