/- Contracts of the models l21Find, AreSeated. Condition: the slices have at most 2^20 elements. -/
import Derived.Test.YthkigilegnjglaaMg10
import Derived.Test.YthkigilegnjglaaJugM
import Derived.Test.YthkigilegnjglaaMjM
import Derived.Test.YthkigilegnjglaaMg11
import Derived.Test.YthkigilegnjglaaWhoM3
import Derived.BigQuiet
import Derived.Deep.Quiet
namespace Go.Proofs.Ythkigilegnjglaa
open Go.ChangeShapes Go.WideShapes Go.ChangeAt Go.RowKit
set_option maxRecDepth 100000
theorem Rd.take {w : World} {B k : Nat} {A : Option Addr} {S : List Int} (h : Rd w B A (ivs S)) : Rd w B A (ivs (S.take k)) := by
  intro i v hv
  refine h i v ?_
  unfold ivs at hv ⊢
  rw [List.map_take] at hv
  rw [List.getElem?_take] at hv
  split at hv
  · exact hv
  · cases hv
set_option maxHeartbeats 1000000 in
theorem l21Find_any {w : World} {B : Nat} {A : Option Addr} {n c : Nat} {a : Int} {J : List Jd} (hl : Hid (J.length = n)) (hn : n ≤ 1048576) (hr : RdJ w B A J) :
    Calls Try.prog 109 #[.slice A n c, .int .i64 a] w (fun e w' => e = .returned (.int .i64 (juI J a)) ∧ w = w') := by
  go_enter Try.func109, Try.ntmps109
  go_wp2_with fail
  go_loopw [5] (fun i wr => ∃ k : Nat, k ≤ n ∧ i = .int .i64 k ∧ wr = w ∧ Hid (NoJ J a k)) (fun i _ => n - (intOf i).toNat)
  case atStart => exact ⟨0, Nat.zero_le _, rfl, rfl, Lib.hid (fun j _ hj => absurd hj (by omega))⟩
  case round =>
    obtain ⟨k, hk, rfl, rfl, hno⟩ := hrel
    by_cases hlt : k < n
    · have hkz : k < J.length := by rw [hl.out]; exact hlt
      obtain ⟨ad, p, rfl, hp, hab, Aj, cj, c0, _⟩ := hr.at_ hkz
      have i0 : (0 : Int) ≤ (k : Int) := by omega
      have i1 : (k : Int) < (n : Int) := by omega
      by_cases h1 : J[k].id = a
      · have HV := Lib.hid (hno.out.some hkz h1)
        rw [h1] at c0
        clear h1
        go_wp2_with fail
        go_ret
        exact ⟨ret_i HV.out.symm, rfl⟩
      · have HN := Lib.hid (hno.out.succ hkz h1)
        obtain ⟨z, hz⟩ : ∃ z, z = J[k].id := ⟨_, rfl⟩
        rw [← hz] at c0 h1
        have h1' : (z == a) = false := by simpa using h1
        clear hz
        go_wp2_with fail
        go_roundw
        case rel => exact ⟨k + 1, by omega, by go_num, trivial, HN⟩
        case measure => simp [intOf]; omega
    · have e : k = n := by omega
      subst e
      have HV := Lib.hid (NoJ.none (a := a) (X := J) (by rw [hl.out]; exact hno.out))
      go_wp2_with fail
      go_ret
      exact ⟨ret_i HV.out.symm, rfl⟩
set_option maxHeartbeats 8000000 in
theorem specAreSeated_any {w : World} {A A1 A2 A3 : Option Addr} {n c n1 c1 n2 c2 n3 c3 : Nat} {T : List Tm} {J : List Jd} {R : List T2} {I : List Int} (hl : Hid (T.length = n)) (hn : n ≤ 1048576) (hr : RdT w w.heap.size A T) (hl1 : Hid (J.length = n1)) (hn1 : n1 ≤ 1048576) (hs1 : Hid (∀ x ∈ J, x.seen.length ≤ 1048576)) (hr1 : RdJ w w.heap.size A1 J) (hl2 : Hid (R.length = n2)) (hn2 : n2 ≤ 1048576) (hr2 : Rd w w.heap.size A2 (t2s R)) (hl3 : Hid (I.length = n3)) (hn3 : n3 ≤ 1048576) (hr3 : Rd w w.heap.size A3 (ivs I)) (hc3 : n3 ≤ c3) :
    Calls Try.prog 58 #[.slice A n c, .slice A1 n1 c1, .slice A2 n2 c2, .slice A3 n3 c3] w (Tells (asB T J R I) w) := by
  by_cases hne : n3 = n2
  case neg =>
    have HV := Lib.hid (as_nol (T := T) (J := J) (R := R) (I := I) (by rw [hl3.out, hl2.out]; exact hne))
    have d1 : ((n3 : Int) != (n2 : Int)) = true := by simp; omega
    clear hne
    go_enter Try.func58, Try.ntmps58
    go_wp2_with fail
    go_ret
    exact ⟨ret_b HV.out.symm, Below.refl _ _⟩
  subst hne
  have d1 : ((n3 : Int) != (n3 : Int)) = false := by simp
  cases hB : juB J with
  | false =>
    have HV := Lib.hid (as_noj (T := T) (R := R) (I := I) hB)
    have HB := Lib.hid hB
    clear hB
    go_enter Try.func58, Try.ntmps58
    go_wp2_with fail
    refine (specAreJudges_any hl1 (by omega) hs1 hr1).mono ?_
    rintro e W1 ⟨rfl, b1⟩
    rw [HB.out]
    go_wp2_with fail
    go_ret
    exact ⟨ret_b HV.out.symm, b1⟩
  | true =>
  have HB := Lib.hid hB
  clear hB
  go_enter Try.func58, Try.ntmps58
  go_wp2_with fail
  refine (specAreJudges_any hl1 (by omega) hs1 hr1).mono ?_
  rintro e W1 ⟨rfl, b1⟩
  rw [HB.out]
  go_wp2_with fail
  go_loopw [9] (fun i wr => ∃ k : Nat, k ≤ n3 ∧ i = .int .i64 k ∧ Below w.heap.size w wr ∧ Hid ((List.range k).all (asAt T J R I) = true)) (fun i _ => n3 - (intOf i).toNat)
  case atStart => exact ⟨0, Nat.zero_le _, rfl, b1, Lib.hid rfl⟩
  case round =>
    obtain ⟨k, hk, rfl, hb, ha⟩ := hrel
    have hsz := hb.size
    by_cases hlt : k < n3
    · have hkI : k < I.length := by rw [hl3.out]; exact hlt
      have hkR : k < R.length := by rw [hl2.out]; exact hlt
      obtain ⟨aI, rfl, hab, e0⟩ := ivs_at ((hr3.below hb).more hsz) hkI
      have HRT := Lib.hid (((hr3.below hb).more hsz).take (k := k))
      have HTL := Lib.hid (show (I.take k).length = k by rw [List.length_take]; omega)
      obtain ⟨qI, hqI⟩ : ∃ q, aI.add k = q := ⟨_, rfl⟩
      rw [hqI] at e0
      have i0 : (0 : Int) ≤ (k : Int) := by omega
      have i1 : (k : Int) < (n3 : Int) := by omega
      have i2 : (k : Int) ≤ (c3 : Int) := by omega
      have HNO := Lib.hid (fun h => as_no (T := T) (J := J) (R := R) hkI h)
      have HIK := Lib.hid (List.getElem?_eq_getElem hkI)
      obtain ⟨a, haI⟩ : ∃ x, x = I[k] := ⟨_, rfl⟩
      rw [← haI] at e0 HIK
      have hrj := (hr1.below hb).more hsz
      clear haI
      cases hF : juO J a with
      | none =>
        have HF := Lib.hid (juI_none hF)
        have HV := Lib.hid (HNO.out (as_1 HIK.out hF))
        clear hF
        go_wp2_with fail
        refine (l21Find_any hl1 hn1 hrj).mono ?_
        rintro e W5 ⟨rfl, rfl⟩
        rw [HF.out]
        have KE := fun (u : World) (q : Below wr.heap.size wr u) => show Below wr.heap.size wr u ∧ u.cell? qI = some (.int .i64 a) from ⟨q, nwc5 q e0⟩
        go_wp2_with fail
        refine wp_region_quiet (C := fun u => Below wr.heap.size wr u ∧ u.cell? qI = some (.int .i64 a)) (by kernel_rfl) (by kernel_rfl) (KE _ (Below.refl wr.heap.size wr).drew) ?_
        rw [List.toList_toArray]
        go_big_quiet_want
        go_big_quiet_op
        go_big_quiet_on
        go_big_quiet_want
        apply Exists.intro
        refine ⟨fun u hu => ?_, ?_⟩
        · obtain ⟨hu0, hu1⟩ := hu
          unfold Oper.quietAt
          go_simp
          try rfl
        simp only [Act.put, List.setIfInBounds_toArray, List.set_cons_zero, List.set_cons_succ]
        go_big_quiet_on
        go_big_quiet_want
        go_big_quiet_op
        go_big_quiet_on
        repeat go_big_quiet_skip
        go_big_quiet_want
        apply Exists.intro
        refine ⟨fun u hu => ?_, ?_⟩
        · obtain ⟨hu0, hu1⟩ := hu
          unfold Oper.quietAt
          go_simp
          try rfl
        simp only [Act.put, List.setIfInBounds_toArray, List.set_cons_zero, List.set_cons_succ]
        go_big_quiet_on
        go_big_quiet_want
        go_big_quiet_op
        go_big_quiet_on
        repeat go_big_quiet_skip
        go_big_quiet_want
        apply Exists.intro
        refine ⟨fun u hu => ?_, ?_⟩
        · obtain ⟨hu0, hu1⟩ := hu
          unfold Oper.quietAt
          go_simp
          try rfl
        simp only [Act.put, List.setIfInBounds_toArray, List.set_cons_zero, List.set_cons_succ]
        go_big_quiet_on
        refine wpQuiet_nil ?_
        rintro u3 ⟨k8, _⟩
        go_wp2_with fail
        go_ret
        exact ⟨ret_b HV.out.symm, hb.trans (k8.mono hsz)⟩
      | some v =>
        have HF := Lib.hid (juI_some hF)
        have HF0 := Lib.hid hF
        obtain ⟨hj, hje⟩ := juO_some hF
        have d2 : decide ((v : Int) < 0) = false := decide_eq_false (by omega)
        clear hF hje
        cases hlk : (I.take k).contains a with
        | true =>
          have HV := Lib.hid (HNO.out (as_2 HIK.out hlk))
          have HLK := Lib.hid hlk
          clear hlk
          go_wp2_with fail
          refine (l21Find_any hl1 hn1 hrj).mono ?_
          rintro e W5 ⟨rfl, rfl⟩
          rw [HF.out]
          have KE := fun (u : World) (q : Below wr.heap.size wr u) => show Below wr.heap.size wr u ∧ u.cell? qI = some (.int .i64 a) from ⟨q, nwc5 q e0⟩
          go_wp2_with fail
          refine wp_region_quiet (C := fun u => Below wr.heap.size wr u ∧ u.cell? qI = some (.int .i64 a)) (by kernel_rfl) (by kernel_rfl) (KE _ (Below.refl wr.heap.size wr).drew) ?_
          rw [List.toList_toArray]
          go_big_quiet_want
          go_big_quiet_op
          go_big_quiet_on
          go_big_quiet_want
          apply Exists.intro
          refine ⟨fun u hu => ?_, ?_⟩
          · obtain ⟨hu0, hu1⟩ := hu
            unfold Oper.quietAt
            go_simp
            try rfl
          simp only [Act.put, List.setIfInBounds_toArray, List.set_cons_zero, List.set_cons_succ]
          go_big_quiet_on
          go_big_quiet_want
          go_big_quiet_op
          go_big_quiet_on
          go_big_quiet_want
          go_big_quiet_op
          go_big_quiet_on
          go_big_quiet_want
          go_big_quiet_op
          go_big_quiet_on
          go_big_quiet_want
          apply Exists.intro
          refine ⟨fun u hu => ?_, ?_⟩
          · obtain ⟨hu0, hu1⟩ := hu
            unfold Oper.quietAt
            go_simp
            try rfl
          simp only [Act.put, List.setIfInBounds_toArray, List.set_cons_zero, List.set_cons_succ]
          go_big_quiet_on
          go_big_quiet_want
          go_big_quiet_op
          go_big_quiet_on
          go_big_quiet_want
          go_big_quiet_op
          go_big_quiet_on
          go_big_quiet_want
          apply Exists.intro
          refine ⟨fun u hu => ?_, ?_⟩
          · obtain ⟨hu0, hu1⟩ := hu
            unfold Oper.quietAt
            go_simp
            try rfl
          simp only [Act.put, List.setIfInBounds_toArray, List.set_cons_zero, List.set_cons_succ]
          go_big_quiet_on
          go_big_quiet_want
          apply Exists.intro
          refine ⟨fun u hu => ?_, ?_⟩
          · obtain ⟨hu0, hu1⟩ := hu
            unfold Oper.quietAt
            go_simp
            try rfl
          simp only [Act.put, List.setIfInBounds_toArray, List.set_cons_zero, List.set_cons_succ]
          go_big_quiet_on
          go_big_quiet_want
          refine ⟨.bool true, fun u hu => ?_, ?_⟩
          · obtain ⟨hu0, hu1⟩ := hu
            unfold Oper.quietAt
            go_simp
            refine (l4Has_any (S := I.take k) HTL (by omega) ((HRT.out.below hu0).more hu0.size)).mono ?_
            rintro e u9 ⟨he, rfl⟩
            rw [HLK.out] at he
            exact ⟨he, KE _ hu0⟩
          simp only [Act.put, List.setIfInBounds_toArray, List.set_cons_zero, List.set_cons_succ]
          go_big_quiet_on
          go_big_quiet_want
          apply Exists.intro
          refine ⟨fun u hu => ?_, ?_⟩
          · obtain ⟨hu0, hu1⟩ := hu
            unfold Oper.quietAt
            go_simp
            try rfl
          simp only [Act.put, List.setIfInBounds_toArray, List.set_cons_zero, List.set_cons_succ]
          go_big_quiet_on
          go_big_quiet_want
          go_big_quiet_op
          go_big_quiet_on
          repeat go_big_quiet_skip
          go_big_quiet_want
          apply Exists.intro
          refine ⟨fun u hu => ?_, ?_⟩
          · obtain ⟨hu0, hu1⟩ := hu
            unfold Oper.quietAt
            go_simp
            try rfl
          simp only [Act.put, List.setIfInBounds_toArray, List.set_cons_zero, List.set_cons_succ]
          go_big_quiet_on
          refine wpQuiet_nil ?_
          rintro u3 ⟨k8, _⟩
          go_wp2_with fail
          go_ret
          exact ⟨ret_b HV.out.symm, hb.trans (k8.mono hsz)⟩
        | false =>
          have HV3 := Lib.hid (fun (p : T2) (j : Jd) (h2 : R[k]? = some p) (h5 : J[v]? = some j) => as_3 (T := T) HIK.out h2 HF0.out h5 hlk)
          have HLK := Lib.hid hlk
          obtain ⟨aj, pj, rfl, hpj, habj, Aj, cj, t0, t1, t2, _, _, hrjj⟩ := hrj.at_ hj
          obtain ⟨ar, pr, rfl, hpr, habr, r0, r1⟩ := t2_cells ((hr2.below hb).more hsz) hkR
          have hjn : v < n1 := by rw [← hl1.out]; exact hj
          have v0 : (0 : Int) ≤ (v : Int) := by omega
          have v1 : (v : Int) < (n1 : Int) := by omega
          have hjs := hs1.out _ (List.getElem_mem hj)
          have HV4 := Lib.hid (HV3.out R[k] J[v] (List.getElem?_eq_getElem hkR) (List.getElem?_eq_getElem hj))
          obtain ⟨j, hje⟩ : ∃ x, x = J[v] := ⟨_, rfl⟩
          obtain ⟨p, hpe⟩ : ∃ x, x = R[k] := ⟨_, rfl⟩
          rw [← hje] at t0 t1 t2 hrjj hjs HV4
          rw [← hpe] at r0 r1 HV4
          have HRJ := Lib.hid hrjj
          have HJS := Lib.hid hjs
          obtain ⟨m9, hm9⟩ : ∃ m, j.seen.length = m := ⟨_, rfl⟩
          rw [hm9] at t2
          have HM9 := Lib.hid hm9
          clear hlk hje hpe hrjj hm9 hjs
          cases hM : mjB T j p.1 p.2 with
          | false =>
            have HV := Lib.hid (HNO.out (HV4.out.trans hM))
            have HM := Lib.hid hM
            clear hM
            go_wp2_with fail
            refine (l21Find_any hl1 hn1 hrj).mono ?_
            rintro e W5 ⟨rfl, rfl⟩
            rw [HF.out]
            have KE := fun (u : World) (q : Below wr.heap.size wr u) => show Below wr.heap.size wr u ∧ u.cell? qI = some (.int .i64 a) ∧ u.cell? pj = some (.int .i64 j.id) ∧ u.cell? ⟨pj.block, pj.off + 1, none⟩ = some (.int .i64 j.club) ∧ u.cell? ⟨pj.block, pj.off + 2, none⟩ = some (.slice Aj m9 cj) ∧ u.cell? pr = some (.int .i64 p.1) ∧ u.cell? ⟨pr.block, pr.off + 1, none⟩ = some (.int .i64 p.2) from ⟨q, nwc5 q e0, nwc5 q t0, nwc5 q t1, nwc5 q t2, nwc5 q r0, nwc5 q r1⟩
            go_wp2_with fail
            refine wp_region_quiet (C := fun u => Below wr.heap.size wr u ∧ u.cell? qI = some (.int .i64 a) ∧ u.cell? pj = some (.int .i64 j.id) ∧ u.cell? ⟨pj.block, pj.off + 1, none⟩ = some (.int .i64 j.club) ∧ u.cell? ⟨pj.block, pj.off + 2, none⟩ = some (.slice Aj m9 cj) ∧ u.cell? pr = some (.int .i64 p.1) ∧ u.cell? ⟨pr.block, pr.off + 1, none⟩ = some (.int .i64 p.2)) (by kernel_rfl) (by kernel_rfl) (KE _ (Below.refl wr.heap.size wr).drew) ?_
            rw [List.toList_toArray]
            go_big_quiet_want
            go_big_quiet_op
            go_big_quiet_on
            go_big_quiet_want
            apply Exists.intro
            refine ⟨fun u hu => ?_, ?_⟩
            · obtain ⟨hu0, hu1, hu2, hu3, hu4, hu5, hu6⟩ := hu
              unfold Oper.quietAt
              go_simp
              try rfl
            simp only [Act.put, List.setIfInBounds_toArray, List.set_cons_zero, List.set_cons_succ]
            go_big_quiet_on
            go_big_quiet_want
            go_big_quiet_op
            go_big_quiet_on
            go_big_quiet_want
            go_big_quiet_op
            go_big_quiet_on
            go_big_quiet_want
            go_big_quiet_op
            go_big_quiet_on
            go_big_quiet_want
            apply Exists.intro
            refine ⟨fun u hu => ?_, ?_⟩
            · obtain ⟨hu0, hu1, hu2, hu3, hu4, hu5, hu6⟩ := hu
              unfold Oper.quietAt
              go_simp
              try rfl
            simp only [Act.put, List.setIfInBounds_toArray, List.set_cons_zero, List.set_cons_succ]
            go_big_quiet_on
            go_big_quiet_want
            go_big_quiet_op
            go_big_quiet_on
            go_big_quiet_want
            go_big_quiet_op
            go_big_quiet_on
            go_big_quiet_want
            apply Exists.intro
            refine ⟨fun u hu => ?_, ?_⟩
            · obtain ⟨hu0, hu1, hu2, hu3, hu4, hu5, hu6⟩ := hu
              unfold Oper.quietAt
              go_simp
              try rfl
            simp only [Act.put, List.setIfInBounds_toArray, List.set_cons_zero, List.set_cons_succ]
            go_big_quiet_on
            go_big_quiet_want
            apply Exists.intro
            refine ⟨fun u hu => ?_, ?_⟩
            · obtain ⟨hu0, hu1, hu2, hu3, hu4, hu5, hu6⟩ := hu
              unfold Oper.quietAt
              go_simp
              try rfl
            simp only [Act.put, List.setIfInBounds_toArray, List.set_cons_zero, List.set_cons_succ]
            go_big_quiet_on
            go_big_quiet_want
            refine ⟨.bool false, fun u hu => ?_, ?_⟩
            · obtain ⟨hu0, hu1, hu2, hu3, hu4, hu5, hu6⟩ := hu
              unfold Oper.quietAt
              go_simp
              refine (l4Has_any (S := I.take k) HTL (by omega) ((HRT.out.below hu0).more hu0.size)).mono ?_
              rintro e u9 ⟨he, rfl⟩
              rw [HLK.out] at he
              exact ⟨he, KE _ hu0⟩
            simp only [Act.put, List.setIfInBounds_toArray, List.set_cons_zero, List.set_cons_succ]
            go_big_quiet_on
            go_big_quiet_want
            apply Exists.intro
            refine ⟨fun u hu => ?_, ?_⟩
            · obtain ⟨hu0, hu1, hu2, hu3, hu4, hu5, hu6⟩ := hu
              unfold Oper.quietAt
              go_simp
              try rfl
            simp only [Act.put, List.setIfInBounds_toArray, List.set_cons_zero, List.set_cons_succ]
            go_big_quiet_on
            go_big_quiet_want
            go_big_quiet_op
            go_big_quiet_on
            go_big_quiet_want
            go_big_quiet_op
            go_big_quiet_on
            go_big_quiet_want
            go_big_quiet_op
            go_big_quiet_on
            go_big_quiet_want
            go_big_quiet_op
            go_big_quiet_on
            go_big_quiet_want
            apply Exists.intro
            refine ⟨fun u hu => ?_, ?_⟩
            · obtain ⟨hu0, hu1, hu2, hu3, hu4, hu5, hu6⟩ := hu
              unfold Oper.quietAt
              go_simp
              try rfl
            simp only [Act.put, List.setIfInBounds_toArray, List.set_cons_zero, List.set_cons_succ]
            go_big_quiet_on
            go_big_quiet_want
            apply Exists.intro
            refine ⟨fun u hu => ?_, ?_⟩
            · obtain ⟨hu0, hu1, hu2, hu3, hu4, hu5, hu6⟩ := hu
              unfold Oper.quietAt
              go_simp
              try rfl
            simp only [Act.put, List.setIfInBounds_toArray, List.set_cons_zero, List.set_cons_succ]
            go_big_quiet_on
            go_big_quiet_want
            go_big_quiet_op
            go_big_quiet_on
            go_big_quiet_want
            go_big_quiet_op
            go_big_quiet_on
            go_big_quiet_want
            apply Exists.intro
            refine ⟨fun u hu => ?_, ?_⟩
            · obtain ⟨hu0, hu1, hu2, hu3, hu4, hu5, hu6⟩ := hu
              unfold Oper.quietAt
              go_simp
              try rfl
            simp only [Act.put, List.setIfInBounds_toArray, List.set_cons_zero, List.set_cons_succ]
            go_big_quiet_on
            go_big_quiet_want
            apply Exists.intro
            refine ⟨fun u hu => ?_, ?_⟩
            · obtain ⟨hu0, hu1, hu2, hu3, hu4, hu5, hu6⟩ := hu
              unfold Oper.quietAt
              go_simp
              try rfl
            simp only [Act.put, List.setIfInBounds_toArray, List.set_cons_zero, List.set_cons_succ]
            go_big_quiet_on
            go_big_quiet_want
            refine ⟨.bool false, fun u hu => ?_, ?_⟩
            · obtain ⟨hu0, hu1, hu2, hu3, hu4, hu5, hu6⟩ := hu
              unfold Oper.quietAt
              go_simp
              rw [← HM9.out]
              refine (specMayJudge_any hl (by omega) HJS.out ((hr.below (hb.trans (hu0.mono hsz))).more (by have := hu0.size; omega)) ((HRJ.out.below hu0).more hu0.size)).mono ?_
              rintro e u9 ⟨he, k9⟩
              rw [HM.out] at he
              rw [HM9.out]
              exact ⟨he, KE _ (hu0.trans (k9.mono hu0.size))⟩
            simp only [Act.put, List.setIfInBounds_toArray, List.set_cons_zero, List.set_cons_succ]
            go_big_quiet_on
            go_big_quiet_want
            apply Exists.intro
            refine ⟨fun u hu => ?_, ?_⟩
            · obtain ⟨hu0, hu1, hu2, hu3, hu4, hu5, hu6⟩ := hu
              unfold Oper.quietAt
              go_simp
              try rfl
            simp only [Act.put, List.setIfInBounds_toArray, List.set_cons_zero, List.set_cons_succ]
            go_big_quiet_on
            go_big_quiet_want
            apply Exists.intro
            refine ⟨fun u hu => ?_, ?_⟩
            · obtain ⟨hu0, hu1, hu2, hu3, hu4, hu5, hu6⟩ := hu
              unfold Oper.quietAt
              go_simp
              try rfl
            simp only [Act.put, List.setIfInBounds_toArray, List.set_cons_zero, List.set_cons_succ]
            go_big_quiet_on
            refine wpQuiet_nil ?_
            rintro u3 ⟨k8, _⟩
            go_wp2_with fail
            go_ret
            exact ⟨ret_b HV.out.symm, hb.trans (k8.mono hsz)⟩
          | true =>
            have HP := Lib.hid (as_snoc ha.out (HV4.out.trans hM))
            have HM := Lib.hid hM
            clear hM
            go_wp2_with fail
            refine (l21Find_any hl1 hn1 hrj).mono ?_
            rintro e W5 ⟨rfl, rfl⟩
            rw [HF.out]
            have KE := fun (u : World) (q : Below wr.heap.size wr u) => show Below wr.heap.size wr u ∧ u.cell? qI = some (.int .i64 a) ∧ u.cell? pj = some (.int .i64 j.id) ∧ u.cell? ⟨pj.block, pj.off + 1, none⟩ = some (.int .i64 j.club) ∧ u.cell? ⟨pj.block, pj.off + 2, none⟩ = some (.slice Aj m9 cj) ∧ u.cell? pr = some (.int .i64 p.1) ∧ u.cell? ⟨pr.block, pr.off + 1, none⟩ = some (.int .i64 p.2) from ⟨q, nwc5 q e0, nwc5 q t0, nwc5 q t1, nwc5 q t2, nwc5 q r0, nwc5 q r1⟩
            go_wp2_with fail
            refine wp_region_quiet (C := fun u => Below wr.heap.size wr u ∧ u.cell? qI = some (.int .i64 a) ∧ u.cell? pj = some (.int .i64 j.id) ∧ u.cell? ⟨pj.block, pj.off + 1, none⟩ = some (.int .i64 j.club) ∧ u.cell? ⟨pj.block, pj.off + 2, none⟩ = some (.slice Aj m9 cj) ∧ u.cell? pr = some (.int .i64 p.1) ∧ u.cell? ⟨pr.block, pr.off + 1, none⟩ = some (.int .i64 p.2)) (by kernel_rfl) (by kernel_rfl) (KE _ (Below.refl wr.heap.size wr).drew) ?_
            rw [List.toList_toArray]
            go_big_quiet_want
            go_big_quiet_op
            go_big_quiet_on
            go_big_quiet_want
            apply Exists.intro
            refine ⟨fun u hu => ?_, ?_⟩
            · obtain ⟨hu0, hu1, hu2, hu3, hu4, hu5, hu6⟩ := hu
              unfold Oper.quietAt
              go_simp
              try rfl
            simp only [Act.put, List.setIfInBounds_toArray, List.set_cons_zero, List.set_cons_succ]
            go_big_quiet_on
            go_big_quiet_want
            go_big_quiet_op
            go_big_quiet_on
            go_big_quiet_want
            go_big_quiet_op
            go_big_quiet_on
            go_big_quiet_want
            go_big_quiet_op
            go_big_quiet_on
            go_big_quiet_want
            apply Exists.intro
            refine ⟨fun u hu => ?_, ?_⟩
            · obtain ⟨hu0, hu1, hu2, hu3, hu4, hu5, hu6⟩ := hu
              unfold Oper.quietAt
              go_simp
              try rfl
            simp only [Act.put, List.setIfInBounds_toArray, List.set_cons_zero, List.set_cons_succ]
            go_big_quiet_on
            go_big_quiet_want
            go_big_quiet_op
            go_big_quiet_on
            go_big_quiet_want
            go_big_quiet_op
            go_big_quiet_on
            go_big_quiet_want
            apply Exists.intro
            refine ⟨fun u hu => ?_, ?_⟩
            · obtain ⟨hu0, hu1, hu2, hu3, hu4, hu5, hu6⟩ := hu
              unfold Oper.quietAt
              go_simp
              try rfl
            simp only [Act.put, List.setIfInBounds_toArray, List.set_cons_zero, List.set_cons_succ]
            go_big_quiet_on
            go_big_quiet_want
            apply Exists.intro
            refine ⟨fun u hu => ?_, ?_⟩
            · obtain ⟨hu0, hu1, hu2, hu3, hu4, hu5, hu6⟩ := hu
              unfold Oper.quietAt
              go_simp
              try rfl
            simp only [Act.put, List.setIfInBounds_toArray, List.set_cons_zero, List.set_cons_succ]
            go_big_quiet_on
            go_big_quiet_want
            refine ⟨.bool false, fun u hu => ?_, ?_⟩
            · obtain ⟨hu0, hu1, hu2, hu3, hu4, hu5, hu6⟩ := hu
              unfold Oper.quietAt
              go_simp
              refine (l4Has_any (S := I.take k) HTL (by omega) ((HRT.out.below hu0).more hu0.size)).mono ?_
              rintro e u9 ⟨he, rfl⟩
              rw [HLK.out] at he
              exact ⟨he, KE _ hu0⟩
            simp only [Act.put, List.setIfInBounds_toArray, List.set_cons_zero, List.set_cons_succ]
            go_big_quiet_on
            go_big_quiet_want
            apply Exists.intro
            refine ⟨fun u hu => ?_, ?_⟩
            · obtain ⟨hu0, hu1, hu2, hu3, hu4, hu5, hu6⟩ := hu
              unfold Oper.quietAt
              go_simp
              try rfl
            simp only [Act.put, List.setIfInBounds_toArray, List.set_cons_zero, List.set_cons_succ]
            go_big_quiet_on
            go_big_quiet_want
            go_big_quiet_op
            go_big_quiet_on
            go_big_quiet_want
            go_big_quiet_op
            go_big_quiet_on
            go_big_quiet_want
            go_big_quiet_op
            go_big_quiet_on
            go_big_quiet_want
            go_big_quiet_op
            go_big_quiet_on
            go_big_quiet_want
            apply Exists.intro
            refine ⟨fun u hu => ?_, ?_⟩
            · obtain ⟨hu0, hu1, hu2, hu3, hu4, hu5, hu6⟩ := hu
              unfold Oper.quietAt
              go_simp
              try rfl
            simp only [Act.put, List.setIfInBounds_toArray, List.set_cons_zero, List.set_cons_succ]
            go_big_quiet_on
            go_big_quiet_want
            apply Exists.intro
            refine ⟨fun u hu => ?_, ?_⟩
            · obtain ⟨hu0, hu1, hu2, hu3, hu4, hu5, hu6⟩ := hu
              unfold Oper.quietAt
              go_simp
              try rfl
            simp only [Act.put, List.setIfInBounds_toArray, List.set_cons_zero, List.set_cons_succ]
            go_big_quiet_on
            go_big_quiet_want
            go_big_quiet_op
            go_big_quiet_on
            go_big_quiet_want
            go_big_quiet_op
            go_big_quiet_on
            go_big_quiet_want
            apply Exists.intro
            refine ⟨fun u hu => ?_, ?_⟩
            · obtain ⟨hu0, hu1, hu2, hu3, hu4, hu5, hu6⟩ := hu
              unfold Oper.quietAt
              go_simp
              try rfl
            simp only [Act.put, List.setIfInBounds_toArray, List.set_cons_zero, List.set_cons_succ]
            go_big_quiet_on
            go_big_quiet_want
            apply Exists.intro
            refine ⟨fun u hu => ?_, ?_⟩
            · obtain ⟨hu0, hu1, hu2, hu3, hu4, hu5, hu6⟩ := hu
              unfold Oper.quietAt
              go_simp
              try rfl
            simp only [Act.put, List.setIfInBounds_toArray, List.set_cons_zero, List.set_cons_succ]
            go_big_quiet_on
            go_big_quiet_want
            refine ⟨.bool true, fun u hu => ?_, ?_⟩
            · obtain ⟨hu0, hu1, hu2, hu3, hu4, hu5, hu6⟩ := hu
              unfold Oper.quietAt
              go_simp
              rw [← HM9.out]
              refine (specMayJudge_any hl (by omega) HJS.out ((hr.below (hb.trans (hu0.mono hsz))).more (by have := hu0.size; omega)) ((HRJ.out.below hu0).more hu0.size)).mono ?_
              rintro e u9 ⟨he, k9⟩
              rw [HM.out] at he
              rw [HM9.out]
              exact ⟨he, KE _ (hu0.trans (k9.mono hu0.size))⟩
            simp only [Act.put, List.setIfInBounds_toArray, List.set_cons_zero, List.set_cons_succ]
            go_big_quiet_on
            go_big_quiet_want
            apply Exists.intro
            refine ⟨fun u hu => ?_, ?_⟩
            · obtain ⟨hu0, hu1, hu2, hu3, hu4, hu5, hu6⟩ := hu
              unfold Oper.quietAt
              go_simp
              try rfl
            simp only [Act.put, List.setIfInBounds_toArray, List.set_cons_zero, List.set_cons_succ]
            go_big_quiet_on
            go_big_quiet_want
            apply Exists.intro
            refine ⟨fun u hu => ?_, ?_⟩
            · obtain ⟨hu0, hu1, hu2, hu3, hu4, hu5, hu6⟩ := hu
              unfold Oper.quietAt
              go_simp
              try rfl
            simp only [Act.put, List.setIfInBounds_toArray, List.set_cons_zero, List.set_cons_succ]
            go_big_quiet_on
            refine wpQuiet_nil ?_
            rintro u3 ⟨k8, _⟩
            have hb8 := hb.trans (k8.mono hsz)
            go_wp2_with fail
            go_roundw
            case rel => exact ⟨k + 1, by omega, by go_num, hb8, HP⟩
            case measure => simp [intOf]; omega
    · have e : k = n3 := by omega
      subst e
      have HV := Lib.hid (as_yes (T := T) HB.out hl3.out hl2.out ha.out)
      go_wp2_with fail
      go_ret
      exact ⟨ret_b HV.out.symm, hb⟩
end Go.Proofs.Ythkigilegnjglaa
