/- Contracts of SideGap, the code's and the model's. Condition: integers of 64 bits; the slices have at most 2^20 elements. -/
import Derived.Test.YthkigilegnjglaaTwo
import Derived.Test.YthkigilegnjglaaMg11
namespace Go.Proofs.Ythkigilegnjglaa
open Go.ChangeShapes Go.WideShapes Go.ChangeAt Go.RowKit
set_option maxRecDepth 100000
def frT (X : List Tm) (v : Int) : Int := (X.getD v.toNat tmD).firsts
def gpS (X : List Tm) (t : Int) (p : T2) : Int := match fndO X p.1, fndO X p.2 with
  | some i, some j => mx t (mx (IntKind.i64.wrap (frT X i - frT X j)) (IntKind.i64.wrap (frT X j - frT X i)))
  | _, _ => t
def gpN (X : List Tm) (R : List T2) : Int := R.foldl (gpS X) 0
theorem gpN_snoc {X : List Tm} {R : List T2} {k : Nat} (h : k < R.length) : gpN X (R.take (k + 1)) = gpS X (gpN X (R.take k)) R[k] := by
  unfold gpN
  rw [List.take_succ_eq_append_getElem h, List.foldl_append]; rfl
theorem gpN_all {X : List Tm} {R : List T2} {n : Nat} (h : R.length = n) : gpN X (R.take n) = gpN X R := by rw [List.take_of_length_le (by omega)]
theorem gpS_1 {X : List Tm} {t : Int} {p : T2} (h : fndO X p.1 = none) : gpS X t p = t := by unfold gpS; rw [h]
theorem gpS_2 {X : List Tm} {t : Int} {p : T2} (h : fndO X p.2 = none) : gpS X t p = t := by unfold gpS; rw [h]; split <;> simp_all
theorem gpS_3 {X : List Tm} {t : Int} {p : T2} {i j : Nat} {x y : Tm} (h : fndO X p.1 = some (i : Int)) (h2 : fndO X p.2 = some (j : Int)) (hx : X[i]? = some x) (hy : X[j]? = some y) : gpS X t p = mx t (mx (IntKind.i64.wrap (x.firsts - y.firsts)) (IntKind.i64.wrap (y.firsts - x.firsts))) := by
  unfold gpS frT
  rw [h, h2]
  simp [List.getD, hx, hy]
set_option maxHeartbeats 8000000 in
theorem impSideGap_any {w : World} {A A' : Option Addr} {n c m c' : Nat} {X : List Tm} {R : List T2} (hl : Hid (X.length = n)) (hn : n ≤ 1048576) (hok : Hid (∀ x ∈ X, x.ok)) (hr : RdT w w.heap.size A X) (hl' : Hid (R.length = m)) (hm : m ≤ 1048576) (hok' : Hid (∀ p ∈ R, I6 p.1 ∧ I6 p.2)) (hr' : Rd w w.heap.size A' (t2s R)) :
    Calls Try.prog 51 #[.slice A n c, .slice A' m c'] w (fun e w' => e = .returned (.int .i64 (gpN X R)) ∧ Below w.heap.size w w') := by
  go_enter Try.func51, Try.ntmps51
  go_wp2_with fail
  refine (teamPlacesOf_any hl (by omega) (Lib.hid fun x hx => (hok.out x hx).1) hr).mono ?_
  rintro e W1 ⟨K, rfl, hm1, b1⟩
  have HM1 := Lib.hid hm1
  clear hm1
  go_wp2_with fail
  go_loopw [6, 15] (fun s i wr => ∃ (k : Nat) (t : Int), k ≤ m ∧ i = .int .i64 k ∧ s = .int .i64 t ∧ Hid (gpN X (R.take k) = t) ∧ Hid (IM (fndO X) K w.heap.size n wr) ∧ Below w.heap.size w wr) (fun _ i _ => m - (intOf i).toNat)
  case atStart => exact ⟨0, 0, Nat.zero_le _, rfl, rfl, Lib.hid rfl, HM1, b1⟩
  case round =>
    obtain ⟨k, t, hk, rfl, rfl, ht, hm3, hb⟩ := hrel
    by_cases hlt : k < m
    · have hkz : k < R.length := by rw [hl'.out]; exact hlt
      have hsz := hb.size
      obtain ⟨ad, p, rfl, hp, hab, h0, h1⟩ := t2_cells ((hr'.below hb).more hsz) hkz
      have i0 : (0 : Int) ≤ (k : Int) := by omega
      have i1 : (k : Int) < (m : Int) := by omega
      have HS := Lib.hid (gpN_snoc (X := X) hkz)
      have HO := Lib.hid (hok'.out _ (List.getElem_mem hkz))
      obtain ⟨z, hz⟩ : ∃ z, z = R[k] := ⟨_, rfl⟩
      rw [← hz] at h0 h1 HS HO
      rw [ht.out] at HS
      obtain ⟨W2, hW2, x2, b2, z2⟩ := box2T wr 38 (.int .i64 z.1) (.int .i64 z.2)
      have HW2 := Lib.hid hW2
      have hm4 := Lib.hid (hm3.out.new b2)
      have hb2 := hb.trans (b2.mono hsz)
      obtain ⟨c0, c1⟩ := x2.c2 (Below.refl _ _)
      clear hz hW2 z2
      cases hA : fndO X z.1 with
      | none =>
        have HA := Lib.hid (show (fndO X z.1).isSome = false by rw [hA]; rfl)
        have HV := Lib.hid (HS.out.trans (gpS_1 hA))
        clear hA
        go_wp2_with fail
        rw [HW2.out]
        try (go_wp2_with fail)
        refine (plHas_any hm4.out HO.out.1).mono ?_
        rintro e u ⟨rfl, rfl⟩
        rw [HA.out]
        go_wp2_with fail
        go_roundw
        case rel => exact ⟨k + 1, t, by omega, by go_num, rfl, HV, hm4, hb2⟩
        case measure => simp [intOf]; omega
      | some v =>
        have HA := Lib.hid (show (fndO X z.1).isSome = true by rw [hA]; rfl)
        cases hB : fndO X z.2 with
        | none =>
          have HB := Lib.hid (show (fndO X z.2).isSome = false by rw [hB]; rfl)
          have HV := Lib.hid (HS.out.trans (gpS_2 hB))
          clear hA hB
          go_wp2_with fail
          rw [HW2.out]
          try (go_wp2_with fail)
          refine (plHas_any hm4.out HO.out.1).mono ?_
          rintro e u ⟨rfl, rfl⟩
          rw [HA.out]
          go_wp2_with fail
          refine (plHas_any hm4.out HO.out.2).mono ?_
          rintro e u ⟨rfl, rfl⟩
          rw [HB.out]
          go_wp2_with fail
          go_roundw
          case rel => exact ⟨k + 1, t, by omega, by go_num, rfl, HV, hm4, hb2⟩
          case measure => simp [intOf]; omega
        | some v' =>
          have HB := Lib.hid (show (fndO X z.2).isSome = true by rw [hB]; rfl)
          obtain ⟨i, rfl, hi, _, _⟩ := fndO_some hA
          obtain ⟨j, rfl, hj, _, _⟩ := fndO_some hB
          have HV := Lib.hid (HS.out.trans (gpS_3 hA hB (List.getElem?_eq_getElem hi) (List.getElem?_eq_getElem hj)))
          obtain ⟨ax, px, ex, hpx, habx, Ai, ci, _, _, _, _, e4, _⟩ := ((hr.below hb2).more hb2.size).at_ hi
          obtain ⟨ay, py, ey, hpy, haby, Aj, cj, _, _, _, _, f4, _⟩ := ((hr.below hb2).more hb2.size).at_ hj
          subst ex
          injection ey with ey
          subst ey
          have hin : i < n := by rw [← hl.out]; exact hi
          have hjn : j < n := by rw [← hl.out]; exact hj
          have q0 : (0 : Int) ≤ (i : Int) := by omega
          have q1 : (i : Int) < (n : Int) := by omega
          have r0 : (0 : Int) ≤ (j : Int) := by omega
          have r1 : (j : Int) < (n : Int) := by omega
          obtain ⟨x, hx⟩ : ∃ x, x = X[i] := ⟨_, rfl⟩
          obtain ⟨y, hy⟩ : ∃ y, y = X[j] := ⟨_, rfl⟩
          rw [← hx] at e4 HV
          rw [← hy] at f4 HV
          obtain ⟨d1, hd1⟩ : ∃ d, IntKind.i64.wrap (x.firsts - y.firsts) = d := ⟨_, rfl⟩
          obtain ⟨d2, hd2⟩ : ∃ d, IntKind.i64.wrap (y.firsts - x.firsts) = d := ⟨_, rfl⟩
          rw [hd1, hd2] at HV
          obtain ⟨g1, hg1⟩ : ∃ d, mx d1 d2 = d := ⟨_, rfl⟩
          obtain ⟨g2, hg2⟩ : ∃ d, mx t g1 = d := ⟨_, rfl⟩
          rw [hg1, hg2] at HV
          have HG1 := Lib.hid hg1
          have HG2 := Lib.hid hg2
          have l1 := IM.get' (w := W2) hm4.out tp_under HO.out.1 hA
          have l2 := IM.get' (w := W2) hm4.out tp_under HO.out.2 hB
          have l1' : (Instr.lookup 94 (.map (some w.heap.size)) (.int .i64 z.1) false).run Try.prog W2.drew = .ok (.int .i64 (i : Int)) W2.drew := IM.get' (w := W2.drew) hm4.out tp_under HO.out.1 hA
          have l2' : (Instr.lookup 94 (.map (some w.heap.size)) (.int .i64 z.2) false).run Try.prog W2.drew = .ok (.int .i64 (j : Int)) W2.drew := IM.get' (w := W2.drew) hm4.out tp_under HO.out.2 hB
          clear hA hB hx hy hg1 hg2
          go_wp2_with fail
          rw [HW2.out]
          try (go_wp2_with fail)
          refine (plHas_any hm4.out HO.out.1).mono ?_
          rintro e u ⟨rfl, rfl⟩
          rw [HA.out]
          go_wp2_with fail
          refine (plHas_any hm4.out HO.out.2).mono ?_
          rintro e u ⟨rfl, rfl⟩
          rw [HB.out]
          go_wp2_with fail
          go_region
          go_wp2_with fail
          refine (max_any _ _ _).mono ?_
          rintro e u1 ⟨rfl, hu1⟩
          rw [HG1.out]
          have q3 : Below W2.heap.size W2 u1 := by rw [← hu1]; exact ((Below.refl W2.heap.size W2).drew).alloc (Nat.le_refl _) _
          clear hu1
          go_wp2_with fail
          refine (max_any _ _ _).mono ?_
          rintro e u2 ⟨rfl, hu2⟩
          rw [HG2.out]
          have q4 : Below W2.heap.size W2 u2 := q3.trans ((show Below u1.heap.size u1 u2 by rw [← hu2]; exact alloc_m u1 _).mono q3.size)
          clear hu2
          have hm5 := Lib.hid (hm4.out.new q4)
          have hb5 := hb2.trans (q4.mono hb2.size)
          go_wp2_with fail
          go_roundw
          case rel => exact ⟨k + 1, g2, by omega, by go_num, rfl, HV, hm5, hb5⟩
          case measure => simp [intOf]; omega
    · have e : k = m := by omega
      subst e
      have HQ := Lib.hid (show t = gpN X R by rw [← ht.out, gpN_all hl'.out])
      go_wp2_with fail
      go_ret
      exact ⟨ret_i HQ.out, hb⟩
set_option maxHeartbeats 8000000 in
theorem specSideGap_any {w : World} {A A' : Option Addr} {n c m c' : Nat} {X : List Tm} {R : List T2} (hl : Hid (X.length = n)) (hn : n ≤ 1048576) (hr : RdT w w.heap.size A X) (hl' : Hid (R.length = m)) (hm : m ≤ 1048576) (hr' : Rd w w.heap.size A' (t2s R)) :
    Calls Try.prog 50 #[.slice A n c, .slice A' m c'] w (fun e w' => e = .returned (.int .i64 (gpN X R)) ∧ Below w.heap.size w w') := by
  go_enter Try.func50, Try.ntmps50
  go_wp2_with fail
  go_loopw [5, 6] (fun s i wr => ∃ (k : Nat) (t : Int), k ≤ m ∧ i = .int .i64 k ∧ s = .int .i64 t ∧ Hid (gpN X (R.take k) = t) ∧ Below w.heap.size w wr) (fun _ i _ => m - (intOf i).toNat)
  case atStart => exact ⟨0, 0, Nat.zero_le _, rfl, rfl, Lib.hid rfl, Below.refl _ _⟩
  case round =>
    obtain ⟨k, t, hk, rfl, rfl, ht, hb⟩ := hrel
    by_cases hlt : k < m
    · have hkz : k < R.length := by rw [hl'.out]; exact hlt
      have hsz := hb.size
      have hrr := (hr.below hb).more hsz
      obtain ⟨ad, p, rfl, hp, hab, h0, h1⟩ := t2_cells ((hr'.below hb).more hsz) hkz
      have i0 : (0 : Int) ≤ (k : Int) := by omega
      have i1 : (k : Int) < (m : Int) := by omega
      have HS := Lib.hid (gpN_snoc (X := X) hkz)
      obtain ⟨z, hz⟩ : ∃ z, z = R[k] := ⟨_, rfl⟩
      rw [← hz] at h0 h1 HS
      rw [ht.out] at HS
      obtain ⟨fa, hfa⟩ : ∃ v, fndI X z.1 = v := ⟨_, rfl⟩
      obtain ⟨fb, hfb⟩ : ∃ v, fndI X z.2 = v := ⟨_, rfl⟩
      have HFB := Lib.hid hfb
      clear hz hfa hfb
      cases hA : fndO X z.1 with
      | none =>
        have HA := Lib.hid (fndI_none hA)
        have HV := Lib.hid (HS.out.trans (gpS_1 hA))
        clear hA
        go_wp2_with fail
        refine (specFindTeam_any hl (by omega) hrr).mono ?_
        rintro e u1 ⟨rfl, rfl⟩
        rw [HA.out]
        go_wp2_with fail
        refine (specFindTeam_any hl (by omega) hrr).mono ?_
        rintro e u1 ⟨rfl, rfl⟩
        rw [HFB.out]
        go_wp2_with fail
        go_roundw
        case rel => exact ⟨k + 1, t, by omega, by go_num, by first | rfl | go_num, HV, hb⟩
        case measure => simp [intOf]; omega
      | some v =>
        have HA := Lib.hid (fndI_some hA)
        cases hB : fndO X z.2 with
        | none =>
          have HB := Lib.hid (fndI_none hB)
          have HV := Lib.hid (HS.out.trans (gpS_2 hB))
          obtain ⟨i, rfl, hi, _, _⟩ := fndO_some hA
          have d1 : decide ((0 : Int) ≤ (i : Int)) = true := decide_eq_true (by omega)
          clear hA hB
          go_wp2_with fail
          refine (specFindTeam_any hl (by omega) hrr).mono ?_
          rintro e u1 ⟨rfl, rfl⟩
          rw [HA.out]
          go_wp2_with fail
          refine (specFindTeam_any hl (by omega) hrr).mono ?_
          rintro e u1 ⟨rfl, rfl⟩
          rw [HB.out]
          go_wp2_with fail
          go_roundw
          case rel => exact ⟨k + 1, t, by omega, by go_num, by first | rfl | go_num, HV, hb⟩
          case measure => simp [intOf]; omega
        | some v' =>
          have HB := Lib.hid (fndI_some hB)
          obtain ⟨i, rfl, hi, _, _⟩ := fndO_some hA
          obtain ⟨j, rfl, hj, _, _⟩ := fndO_some hB
          have dd1 : decide ((0 : Int) ≤ (i : Int)) = true := decide_eq_true (by omega)
          have dd2 : decide ((0 : Int) ≤ (j : Int)) = true := decide_eq_true (by omega)
          have HV := Lib.hid (HS.out.trans (gpS_3 hA hB (List.getElem?_eq_getElem hi) (List.getElem?_eq_getElem hj)))
          obtain ⟨ax, px, rfl, hpx, habx, Ai, ci, _, _, _, _, e4, _⟩ := hrr.at_ hi
          obtain ⟨ay, py, ey, hpy, haby, Aj, cj, _, _, _, _, f4, _⟩ := hrr.at_ hj
          injection ey with ey
          subst ey
          have hin : i < n := by rw [← hl.out]; exact hi
          have hjn : j < n := by rw [← hl.out]; exact hj
          have q0 : (0 : Int) ≤ (i : Int) := by omega
          have q1 : (i : Int) < (n : Int) := by omega
          have r0 : (0 : Int) ≤ (j : Int) := by omega
          have r1 : (j : Int) < (n : Int) := by omega
          obtain ⟨x, hx⟩ : ∃ x, x = X[i] := ⟨_, rfl⟩
          obtain ⟨y, hy⟩ : ∃ y, y = X[j] := ⟨_, rfl⟩
          rw [← hx] at e4 HV
          rw [← hy] at f4 HV
          obtain ⟨d1, hd1⟩ : ∃ d, IntKind.i64.wrap (x.firsts - y.firsts) = d := ⟨_, rfl⟩
          obtain ⟨d2, hd2⟩ : ∃ d, IntKind.i64.wrap (y.firsts - x.firsts) = d := ⟨_, rfl⟩
          rw [hd1, hd2] at HV
          obtain ⟨g1, hg1⟩ : ∃ d, mx d1 d2 = d := ⟨_, rfl⟩
          obtain ⟨g2, hg2⟩ : ∃ d, mx t g1 = d := ⟨_, rfl⟩
          rw [hg1, hg2] at HV
          have HG1 := Lib.hid hg1
          have HG2 := Lib.hid hg2
          clear hA hB hx hy hg1 hg2
          have KE := fun (u : World) (q : Below wr.heap.size wr u) => show Below wr.heap.size wr u ∧ u.cell? ⟨px.block, px.off + 4, none⟩ = some (.int .i64 x.firsts) ∧ u.cell? ⟨py.block, py.off + 4, none⟩ = some (.int .i64 y.firsts) from ⟨q, nwc5 q e4, nwc5 q f4⟩
          go_wp2_with fail
          refine (specFindTeam_any hl (by omega) hrr).mono ?_
          rintro e u1 ⟨rfl, rfl⟩
          rw [HA.out]
          go_wp2_with fail
          refine (specFindTeam_any hl (by omega) hrr).mono ?_
          rintro e u1 ⟨rfl, rfl⟩
          rw [HB.out]
          go_wp2_with fail
          refine wp_region_quiet (C := fun u => Below wr.heap.size wr u ∧ u.cell? ⟨px.block, px.off + 4, none⟩ = some (.int .i64 x.firsts) ∧ u.cell? ⟨py.block, py.off + 4, none⟩ = some (.int .i64 y.firsts)) (by kernel_rfl) (by kernel_rfl) (KE _ (Below.refl wr.heap.size wr).drew) ?_
          rw [List.toList_toArray]
          go_big_quiet_want
          go_big_quiet_op
          go_big_quiet_on
          go_big_quiet_want
          go_big_quiet_op
          go_big_quiet_on
          go_big_quiet_want
          go_big_quiet_op
          go_big_quiet_on
          go_big_quiet_want
          apply Exists.intro
          refine ⟨fun u hu => ?_, ?_⟩
          · obtain ⟨hu0, hu1, hu2⟩ := hu
            unfold Oper.quietAt
            go_simp
            try rfl
          simp only [Act.put, List.setIfInBounds_toArray, List.set_cons_zero, List.set_cons_succ]
          go_big_quiet_on
          go_big_quiet_want
          apply Exists.intro
          refine ⟨fun u hu => ?_, ?_⟩
          · obtain ⟨hu0, hu1, hu2⟩ := hu
            unfold Oper.quietAt
            go_simp
            try rfl
          simp only [Act.put, List.setIfInBounds_toArray, List.set_cons_zero, List.set_cons_succ]
          go_big_quiet_on
          go_big_quiet_want
          apply Exists.intro
          refine ⟨fun u hu => ?_, ?_⟩
          · obtain ⟨hu0, hu1, hu2⟩ := hu
            unfold Oper.quietAt
            go_simp
            try rfl
          simp only [Act.put, List.setIfInBounds_toArray, List.set_cons_zero, List.set_cons_succ]
          go_big_quiet_on
          go_big_quiet_want
          go_big_quiet_op
          go_big_quiet_on
          go_big_quiet_want
          go_big_quiet_op
          go_big_quiet_on
          go_big_quiet_want
          apply Exists.intro
          refine ⟨fun u hu => ?_, ?_⟩
          · obtain ⟨hu0, hu1, hu2⟩ := hu
            unfold Oper.quietAt
            go_simp
            try rfl
          simp only [Act.put, List.setIfInBounds_toArray, List.set_cons_zero, List.set_cons_succ]
          go_big_quiet_on
          go_big_quiet_want
          apply Exists.intro
          refine ⟨fun u hu => ?_, ?_⟩
          · obtain ⟨hu0, hu1, hu2⟩ := hu
            unfold Oper.quietAt
            go_simp
            try rfl
          simp only [Act.put, List.setIfInBounds_toArray, List.set_cons_zero, List.set_cons_succ]
          go_big_quiet_on
          go_big_quiet_want
          apply Exists.intro
          refine ⟨fun u hu => ?_, ?_⟩
          · obtain ⟨hu0, hu1, hu2⟩ := hu
            unfold Oper.quietAt
            go_simp
            try rfl
          simp only [Act.put, List.setIfInBounds_toArray, List.set_cons_zero, List.set_cons_succ]
          go_big_quiet_on
          go_big_quiet_want
          apply Exists.intro
          refine ⟨fun u hu => ?_, ?_⟩
          · obtain ⟨hu0, hu1, hu2⟩ := hu
            unfold Oper.quietAt
            go_simp
            try rfl
          simp only [Act.put, List.setIfInBounds_toArray, List.set_cons_zero, List.set_cons_succ]
          go_big_quiet_on
          go_big_quiet_want
          go_big_quiet_op
          go_big_quiet_on
          go_big_quiet_want
          go_big_quiet_op
          go_big_quiet_on
          go_big_quiet_want
          apply Exists.intro
          refine ⟨fun u hu => ?_, ?_⟩
          · obtain ⟨hu0, hu1, hu2⟩ := hu
            unfold Oper.quietAt
            go_simp
            try rfl
          simp only [Act.put, List.setIfInBounds_toArray, List.set_cons_zero, List.set_cons_succ]
          go_big_quiet_on
          go_big_quiet_want
          apply Exists.intro
          refine ⟨fun u hu => ?_, ?_⟩
          · obtain ⟨hu0, hu1, hu2⟩ := hu
            unfold Oper.quietAt
            go_simp
            try rfl
          simp only [Act.put, List.setIfInBounds_toArray, List.set_cons_zero, List.set_cons_succ]
          go_big_quiet_on
          go_big_quiet_want
          apply Exists.intro
          refine ⟨fun u hu => ?_, ?_⟩
          · obtain ⟨hu0, hu1, hu2⟩ := hu
            unfold Oper.quietAt
            go_simp
            try rfl
          simp only [Act.put, List.setIfInBounds_toArray, List.set_cons_zero, List.set_cons_succ]
          go_big_quiet_on
          go_big_quiet_want
          go_big_quiet_op
          go_big_quiet_on
          go_big_quiet_want
          go_big_quiet_op
          go_big_quiet_on
          go_big_quiet_want
          apply Exists.intro
          refine ⟨fun u hu => ?_, ?_⟩
          · obtain ⟨hu0, hu1, hu2⟩ := hu
            unfold Oper.quietAt
            go_simp
            try rfl
          simp only [Act.put, List.setIfInBounds_toArray, List.set_cons_zero, List.set_cons_succ]
          go_big_quiet_on
          go_big_quiet_want
          apply Exists.intro
          refine ⟨fun u hu => ?_, ?_⟩
          · obtain ⟨hu0, hu1, hu2⟩ := hu
            unfold Oper.quietAt
            go_simp
            try rfl
          simp only [Act.put, List.setIfInBounds_toArray, List.set_cons_zero, List.set_cons_succ]
          go_big_quiet_on
          go_big_quiet_want
          apply Exists.intro
          refine ⟨fun u hu => ?_, ?_⟩
          · obtain ⟨hu0, hu1, hu2⟩ := hu
            unfold Oper.quietAt
            go_simp
            try rfl
          simp only [Act.put, List.setIfInBounds_toArray, List.set_cons_zero, List.set_cons_succ]
          go_big_quiet_on
          go_big_quiet_want
          apply Exists.intro
          refine ⟨fun u hu => ?_, ?_⟩
          · obtain ⟨hu0, hu1, hu2⟩ := hu
            unfold Oper.quietAt
            go_simp
            try rfl
          simp only [Act.put, List.setIfInBounds_toArray, List.set_cons_zero, List.set_cons_succ]
          go_big_quiet_on
          go_big_quiet_want
          refine ⟨.int .i64 g1, fun u hu => ?_, ?_⟩
          · obtain ⟨hu0, hu1, hu2⟩ := hu
            unfold Oper.quietAt
            go_simp
            refine (smax_any _ _ _).mono ?_
            rintro e u9 ⟨he, rfl⟩
            rw [HG1.out] at he
            exact ⟨he, KE _ hu0⟩
          simp only [Act.put, List.setIfInBounds_toArray, List.set_cons_zero, List.set_cons_succ]
          go_big_quiet_on
          go_big_quiet_want
          refine ⟨.int .i64 g2, fun u hu => ?_, ?_⟩
          · obtain ⟨hu0, hu1, hu2⟩ := hu
            unfold Oper.quietAt
            go_simp
            refine (smax_any _ _ _).mono ?_
            rintro e u9 ⟨he, rfl⟩
            rw [HG2.out] at he
            exact ⟨he, KE _ hu0⟩
          simp only [Act.put, List.setIfInBounds_toArray, List.set_cons_zero, List.set_cons_succ]
          go_big_quiet_on
          go_big_quiet_want
          go_big_quiet_op
          go_big_quiet_on
          refine wpQuiet_nil ?_
          rintro u3 ⟨k8, _⟩
          have hb5 := hb.trans (k8.mono hsz)
          go_wp2_with fail
          go_roundw
          case rel => exact ⟨k + 1, g2, by omega, by go_num, by first | rfl | go_num, HV, hb5⟩
          case measure => simp [intOf]; omega
    · have e : k = m := by omega
      subst e
      have HQ := Lib.hid (show t = gpN X R by rw [← ht.out, gpN_all hl'.out])
      go_wp2_with fail
      go_ret
      exact ⟨ret_i HQ.out, hb⟩
end Go.Proofs.Ythkigilegnjglaa
