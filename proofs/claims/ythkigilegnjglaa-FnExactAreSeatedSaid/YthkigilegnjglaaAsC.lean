/- Contract of the code's AreSeated. Condition: integers of 64 bits; the slices have at most 2^20 elements. -/
import Derived.Test.YthkigilegnjglaaMg10
import Derived.Test.YthkigilegnjglaaJugC
import Derived.Test.YthkigilegnjglaaMjC
import Derived.Test.YthkigilegnjglaaMg11
import Derived.Test.YthkigilegnjglaaTm6
import Derived.BigQuiet
import Derived.Deep.Quiet
namespace Go.Proofs.Ythkigilegnjglaa
open Go.ChangeShapes Go.WideShapes Go.ChangeAt Go.RowKit
set_option maxRecDepth 100000
theorem bm_under : Try.prog.underlying 118 = some (.map 3 4) := Try.underlying118
set_option maxHeartbeats 1000000 in
theorem asF_any {w : World} {g : Nat} {a : Int} {j : Jd} {Aj : Option Addr} {m9 cj : Nat} (hg : w.cell? ⟨g, 0, none⟩ = some (.int .i64 a)) :
    Calls Try.prog 112 #[.agg #[Value.int .i64 j.id, .int .i64 j.club, .slice Aj m9 cj], .pointer (some ⟨g, 0, none⟩)] w (Tells (decide (j.id = a)) w) := by
  have bx := Bx.made w 115 #[Value.int .i64 j.id, .int .i64 j.club, .slice Aj m9 cj]
  have b1 := alloc_m w (Obj.cells #[Value.int .i64 j.id, .int .i64 j.club, .slice Aj m9 cj] 115)
  have x0 := bx.at_ (k := 0) (v := .int .i64 j.id) rfl
  have e1 := nwc5 b1 hg
  clear bx hg
  by_cases he : j.id = a
  · have HE := Lib.hid (decide_eq_true he)
    have d1 : (j.id == a) = true := by simpa using he
    clear he
    go_enter Try.func112, Try.ntmps112
    go_wp2_with fail
    go_ret
    exact ⟨ret_b HE.out.symm, b1⟩
  · have HE := Lib.hid (decide_eq_false he)
    have d1 : (j.id == a) = false := by simpa using he
    clear he
    go_enter Try.func112, Try.ntmps112
    go_wp2_with fail
    go_ret
    exact ⟨ret_b HE.out.symm, b1⟩
set_option maxHeartbeats 2000000 in
theorem idxJudge_any {w : World} {A : Option Addr} {n c g : Nat} {a : Int} {J : List Jd} (hl : Hid (J.length = n)) (hn : n ≤ 1048576) (hr : RdJ w w.heap.size A J) (hg : Hid (w.cell? ⟨g, 0, none⟩ = some (.int .i64 a))) :
    Calls Try.prog 111 #[.slice A n c, .func (.func 112) #[] #[.pointer (some ⟨g, 0, none⟩)]] w (fun e w' => e = .returned (.int .i64 (juI J a)) ∧ Below w.heap.size w w') := by
  go_enter Try.func111, Try.ntmps111
  go_wp2_with fail
  go_loopw [8] (fun i wr => ∃ k : Nat, k ≤ n ∧ i = .int .i64 k ∧ Below w.heap.size w wr ∧ Hid (NoJ J a k)) (fun i _ => n - (intOf i).toNat)
  case atStart => exact ⟨0, Nat.zero_le _, rfl, Below.refl _ _, Lib.hid (fun j _ hj => absurd hj (by omega))⟩
  case round =>
    obtain ⟨k, hk, rfl, hbw, hno⟩ := hrel
    have hsz := hbw.size
    by_cases hlt : k < n
    · have hkz : k < J.length := by rw [hl.out]; exact hlt
      obtain ⟨ad, p, rfl, hp, hab, Aj, cj, h0, h1, h2, _, _, _⟩ := ((hr.below hbw).more hsz).at_ hkz
      have HYS := Lib.hid (fun h => hno.out.some hkz h)
      have HNS := Lib.hid (fun h => hno.out.succ hkz h)
      obtain ⟨j, hj⟩ : ∃ x, x = J[k] := ⟨_, rfl⟩
      rw [← hj] at h0 h1 h2 HYS HNS
      obtain ⟨m9, hm9⟩ : ∃ m, j.seen.length = m := ⟨_, rfl⟩
      rw [hm9] at h2
      have i0 : (0 : Int) ≤ (k : Int) := by omega
      have i1 : (k : Int) < (n : Int) := by omega
      have hgw := Lib.hid (nwc5 hbw hg.out)
      clear hj hm9
      by_cases he : j.id = a
      · have HV := Lib.hid (HYS.out he)
        have HE := Lib.hid (decide_eq_true he)
        clear he
        go_wp2_with fail
        refine (asF_any (j := j) hgw.out).mono ?_
        rintro e w1 ⟨rfl, r⟩
        rw [HE.out]
        go_wp2_with fail
        go_ret
        exact ⟨ret_i HV.out.symm, hbw.trans (r.mono hsz)⟩
      · have HN := Lib.hid (HNS.out he)
        have HE := Lib.hid (decide_eq_false he)
        clear he
        go_wp2_with fail
        refine (asF_any (j := j) hgw.out).mono ?_
        rintro e w1 ⟨rfl, r⟩
        rw [HE.out]
        have q := hbw.trans (r.mono hsz)
        go_wp2_with fail
        go_roundw
        case rel => exact ⟨k + 1, by omega, by go_num, q, HN⟩
        case measure => simp [intOf]; omega
    · have e : k = n := by omega
      subst e
      have HV := Lib.hid (NoJ.none (X := J) (a := a) (by rw [hl.out]; exact hno.out))
      go_wp2_with fail
      go_ret
      exact ⟨ret_i HV.out.symm, hbw⟩
set_option maxHeartbeats 8000000 in
theorem impAreSeated_any {w : World} {A A1 A2 A3 : Option Addr} {n c n1 c1 n2 c2 n3 c3 : Nat} {T : List Tm} {J : List Jd} {R : List T2} {I : List Int} (hl : Hid (T.length = n)) (hn : n ≤ 1048576) (hr : RdT w w.heap.size A T) (hl1 : Hid (J.length = n1)) (hn1 : n1 ≤ 1048576) (hs1 : Hid (∀ x ∈ J, x.seen.length ≤ 1048576)) (hr1 : RdJ w w.heap.size A1 J) (hl2 : Hid (R.length = n2)) (hn2 : n2 ≤ 1048576) (hr2 : Rd w w.heap.size A2 (t2s R)) (hl3 : Hid (I.length = n3)) (hn3 : n3 ≤ 1048576) (hr3 : Rd w w.heap.size A3 (ivs I)) (hok : Hid (∀ x ∈ T, I6 x.id)) (hok2 : Hid (∀ p ∈ R, I6 p.1 ∧ I6 p.2)) (hok3 : Hid (∀ a ∈ I, I6 a)) :
    Calls Try.prog 60 #[.slice A n c, .slice A1 n1 c1, .slice A2 n2 c2, .slice A3 n3 c3] w (Tells (asB T J R I) w) := by
  cases hB : juB J with
  | false =>
    have HV := Lib.hid (as_noj (T := T) (R := R) (I := I) hB)
    have HB := Lib.hid hB
    clear hB
    go_enter Try.func60, Try.ntmps60
    go_wp2_with fail
    refine (impAreJudges_any hl1 (by omega) hs1 hr1).mono ?_
    rintro e W1 ⟨rfl, b1⟩
    rw [HB.out]
    go_wp2_with fail
    go_ret
    exact ⟨ret_b HV.out.symm, b1⟩
  | true =>
  have HB := Lib.hid hB
  clear hB
  by_cases hne : n3 = n2
  case neg =>
    have HV := Lib.hid (as_nol (T := T) (J := J) (R := R) (I := I) (by rw [hl3.out, hl2.out]; exact hne))
    have d1 : ((n3 : Int) != (n2 : Int)) = true := by simp; omega
    clear hne
    go_enter Try.func60, Try.ntmps60
    go_wp2_with fail
    refine (impAreJudges_any hl1 (by omega) hs1 hr1).mono ?_
    rintro e W1 ⟨rfl, b1⟩
    rw [HB.out]
    go_wp2_with fail
    go_ret
    exact ⟨ret_b HV.out.symm, b1⟩
  subst hne
  have hmm := @run_makeMap Try.prog
  go_enter Try.func60, Try.ntmps60
  go_wp2_with fail
  refine (impAreJudges_any hl1 (by omega) hs1 hr1).mono ?_
  rintro e W1 ⟨rfl, b1⟩
  rw [HB.out]
  have m1 := BM.made W1
  have hbm := b1.trans ((alloc_m W1 (.map #[] 0)).mono b1.size)
  obtain ⟨W2, hW2⟩ : ∃ u, W1.alloc (.map #[] 0) = u := ⟨_, rfl⟩
  rw [hW2] at m1 hbm
  have HW2 := Lib.hid hW2
  have M1 := Lib.hid m1
  have hww : w.heap.size ≤ W1.heap.size := b1.size
  clear hW2 m1
  go_wp2_with fail
  rw [HW2.out]
  try (go_wp2_with fail)
  clear hmm
  go_loopw [26] (fun i wr => ∃ k : Nat, k ≤ n3 ∧ i = .int .i64 k ∧ Below w.heap.size w wr ∧ Hid (BM (fun b => (I.take k).contains b) W1.heap.size k wr) ∧ Hid ((List.range k).all (asAt T J R I) = true)) (fun i _ => n3 - (intOf i).toNat)
  case atStart => exact ⟨0, Nat.zero_le _, rfl, hbm, Lib.hid (by simpa using M1.out), Lib.hid rfl⟩
  case round =>
    obtain ⟨k, hk, rfl, hb, hbm2, ha⟩ := hrel
    have hsz := hb.size
    by_cases hlt : k < n3
    · have hkI : k < I.length := by rw [hl3.out]; exact hlt
      have hkR : k < R.length := by rw [hl2.out]; exact hlt
      obtain ⟨aI, rfl, hab, e0⟩ := ivs_at ((hr3.below hb).more hsz) hkI
      obtain ⟨qI, hqI⟩ : ∃ q, aI.add k = q := ⟨_, rfl⟩
      rw [hqI] at e0
      have i0 : (0 : Int) ≤ (k : Int) := by omega
      have i1 : (k : Int) < (n3 : Int) := by omega
      have HNO := Lib.hid (fun h => as_no (T := T) (J := J) (R := R) hkI h)
      have HIK := Lib.hid (List.getElem?_eq_getElem hkI)
      have HTK := Lib.hid (as_take hkI)
      have HA6 := Lib.hid (hok3.out _ (List.getElem_mem hkI))
      obtain ⟨a, haI⟩ : ∃ x, x = I[k] := ⟨_, rfl⟩
      rw [← haI] at e0 HIK HTK HA6
      have b2 := alloc_m wr (Obj.cells #[Value.int .i64 a] 3)
      have bx := Bx.made wr 3 #[Value.int .i64 a]
      obtain ⟨W3, hW3⟩ : ∃ u, wr.alloc (Obj.cells #[Value.int .i64 a] 3) = u := ⟨_, rfl⟩
      rw [hW3] at b2 bx
      have HW3 := Lib.hid hW3
      have g0 := bx.at_ (k := 0) (v := .int .i64 a) rfl
      have hb3 := hb.trans (b2.mono hsz)
      have hs3 := hb3.size
      have hm3 := Lib.hid (hbm2.out.new b2)
      have hlw := hbm2.out.lt
      have HG0 := Lib.hid g0
      clear haI hW3 bx

      obtain ⟨lk, hlk⟩ : ∃ b, (I.take k).contains a = b := ⟨_, rfl⟩
      have HLK := Lib.hid hlk
      cases hF : juO J a with
      | none =>
        have HF := Lib.hid (juI_none hF)
        have HV := Lib.hid (HNO.out (as_1 HIK.out hF))
        clear hF hlk
        go_wp2_with fail
        rw [HW3.out]
        try (go_wp2_with fail)
        refine (idxJudge_any hl1 hn1 ((hr1.below hb3).more hs3) HG0).mono ?_
        rintro e W5 ⟨rfl, b5⟩
        rw [HF.out]
        have hb5 := hb3.trans (b5.mono hs3)
        have hs5 := hb5.size
        have g5 := nwc5 b5 HG0.out
        have hm5 := Lib.hid (hm3.out.new b5)

        have KE := fun (u : World) (q : Below W5.heap.size W5 u) => show Below W5.heap.size W5 u ∧ u.cell? ⟨wr.heap.size, 0, none⟩ = some (.int .i64 a) ∧ (Instr.lookup 118 (.map (some W1.heap.size)) (.int .i64 a) false).run Try.prog u = .ok (.bool lk) u from ⟨q, nwc5 q g5, (by have h : _ = Result.ok (Value.bool ((I.take k).contains a)) _ := (hm5.out.new q).get bm_under HA6.out; rw [HLK.out] at h; exact h)⟩
        go_wp2_with fail
        refine wp_region_quiet (C := fun u => Below W5.heap.size W5 u ∧ u.cell? ⟨wr.heap.size, 0, none⟩ = some (.int .i64 a) ∧ (Instr.lookup 118 (.map (some W1.heap.size)) (.int .i64 a) false).run Try.prog u = .ok (.bool lk) u) (by kernel_rfl) (by kernel_rfl) (KE _ (Below.refl W5.heap.size W5).drew) ?_
        rw [List.toList_toArray]
        go_big_quiet_want
        go_big_quiet_op
        go_big_quiet_on
        go_big_quiet_want
        apply Exists.intro
        refine ⟨fun u hu => ?_, ?_⟩
        · obtain ⟨hu0, hu1, hu2⟩ := hu
          unfold Oper.quietAt
          go_simp
          try rfl
        simp only [Act.put, List.setIfInBounds_toArray, List.set_cons_zero, List.set_cons_succ]
        go_big_quiet_on
        go_big_quiet_want
        go_big_quiet_op
        go_big_quiet_on
        repeat go_big_quiet_skip
        go_big_quiet_want
        apply Exists.intro
        refine ⟨fun u hu => ?_, ?_⟩
        · obtain ⟨hu0, hu1, hu2⟩ := hu
          unfold Oper.quietAt
          go_simp
          try rfl
        simp only [Act.put, List.setIfInBounds_toArray, List.set_cons_zero, List.set_cons_succ]
        go_big_quiet_on
        go_big_quiet_want
        go_big_quiet_op
        go_big_quiet_on
        repeat go_big_quiet_skip
        go_big_quiet_want
        apply Exists.intro
        refine ⟨fun u hu => ?_, ?_⟩
        · obtain ⟨hu0, hu1, hu2⟩ := hu
          unfold Oper.quietAt
          go_simp
          try rfl
        simp only [Act.put, List.setIfInBounds_toArray, List.set_cons_zero, List.set_cons_succ]
        go_big_quiet_on
        refine wpQuiet_nil ?_
        rintro u3 ⟨k8, e8, _⟩
        go_wp2_with fail
        go_ret
        exact ⟨ret_b HV.out.symm, hb5.trans (k8.mono hs5)⟩
      | some v =>
        have HF := Lib.hid (juI_some hF)
        have HF0 := Lib.hid hF
        obtain ⟨hj, hje⟩ := juO_some hF
        have d1 : decide ((v : Int) < 0) = false := decide_eq_false (by omega)
        clear hF hje
        cases lk with
        | true =>
          have HV := Lib.hid (HNO.out (as_2 HIK.out hlk))
          clear hlk
          go_wp2_with fail
          rw [HW3.out]
          try (go_wp2_with fail)
          refine (idxJudge_any hl1 hn1 ((hr1.below hb3).more hs3) HG0).mono ?_
          rintro e W5 ⟨rfl, b5⟩
          rw [HF.out]
          have hb5 := hb3.trans (b5.mono hs3)
          have hs5 := hb5.size
          have g5 := nwc5 b5 HG0.out
          have hm5 := Lib.hid (hm3.out.new b5)

          have KE := fun (u : World) (q : Below W5.heap.size W5 u) => show Below W5.heap.size W5 u ∧ u.cell? ⟨wr.heap.size, 0, none⟩ = some (.int .i64 a) ∧ (Instr.lookup 118 (.map (some W1.heap.size)) (.int .i64 a) false).run Try.prog u = .ok (.bool true) u from ⟨q, nwc5 q g5, (by have h : _ = Result.ok (Value.bool ((I.take k).contains a)) _ := (hm5.out.new q).get bm_under HA6.out; rw [HLK.out] at h; exact h)⟩
          go_wp2_with fail
          refine wp_region_quiet (C := fun u => Below W5.heap.size W5 u ∧ u.cell? ⟨wr.heap.size, 0, none⟩ = some (.int .i64 a) ∧ (Instr.lookup 118 (.map (some W1.heap.size)) (.int .i64 a) false).run Try.prog u = .ok (.bool true) u) (by kernel_rfl) (by kernel_rfl) (KE _ (Below.refl W5.heap.size W5).drew) ?_
          rw [List.toList_toArray]
          go_big_quiet_want
          go_big_quiet_op
          go_big_quiet_on
          go_big_quiet_want
          apply Exists.intro
          refine ⟨fun u hu => ?_, ?_⟩
          · obtain ⟨hu0, hu1, hu2⟩ := hu
            unfold Oper.quietAt
            go_simp
            try rfl
          simp only [Act.put, List.setIfInBounds_toArray, List.set_cons_zero, List.set_cons_succ]
          go_big_quiet_on
          go_big_quiet_want
          go_big_quiet_op
          go_big_quiet_on
          go_big_quiet_want
          go_big_quiet_op
          go_big_quiet_on
          go_big_quiet_want
          apply Exists.intro
          refine ⟨fun u hu => ?_, ?_⟩
          · obtain ⟨hu0, hu1, hu2⟩ := hu
            unfold Oper.quietAt
            go_simp
            try rfl
          simp only [Act.put, List.setIfInBounds_toArray, List.set_cons_zero, List.set_cons_succ]
          go_big_quiet_on
          go_big_quiet_want
          apply Exists.intro
          refine ⟨fun u hu => ?_, ?_⟩
          · obtain ⟨hu0, hu1, hu2⟩ := hu
            unfold Oper.quietAt
            go_simp
            try rfl
          simp only [Act.put, List.setIfInBounds_toArray, List.set_cons_zero, List.set_cons_succ]
          go_big_quiet_on
          go_big_quiet_want
          apply Exists.intro
          refine ⟨fun u hu => ?_, ?_⟩
          · obtain ⟨hu0, hu1, hu2⟩ := hu
            unfold Oper.quietAt
            go_simp
            try rfl
          simp only [Act.put, List.setIfInBounds_toArray, List.set_cons_zero, List.set_cons_succ]
          go_big_quiet_on
          go_big_quiet_want
          go_big_quiet_op
          go_big_quiet_on
          repeat go_big_quiet_skip
          go_big_quiet_want
          apply Exists.intro
          refine ⟨fun u hu => ?_, ?_⟩
          · obtain ⟨hu0, hu1, hu2⟩ := hu
            unfold Oper.quietAt
            go_simp
            try rfl
          simp only [Act.put, List.setIfInBounds_toArray, List.set_cons_zero, List.set_cons_succ]
          go_big_quiet_on
          refine wpQuiet_nil ?_
          rintro u3 ⟨k8, e8, _⟩
          go_wp2_with fail
          go_ret
          exact ⟨ret_b HV.out.symm, hb5.trans (k8.mono hs5)⟩
        | false =>
          have HV3 := Lib.hid (fun (p : T2) (j : Jd) (h2 : R[k]? = some p) (h5 : J[v]? = some j) => as_3 (T := T) HIK.out h2 HF0.out h5 hlk)
          clear hlk
          go_wp2_with fail
          rw [HW3.out]
          try (go_wp2_with fail)
          refine (idxJudge_any hl1 hn1 ((hr1.below hb3).more hs3) HG0).mono ?_
          rintro e W5 ⟨rfl, b5⟩
          rw [HF.out]
          have hb5 := hb3.trans (b5.mono hs3)
          have hs5 := hb5.size
          have g5 := nwc5 b5 HG0.out
          have hm5 := Lib.hid (hm3.out.new b5)

          obtain ⟨aj, pj, rfl, hpj, habj, Aj, cj, t0, t1, t2, _, _, hrj⟩ := ((hr1.below hb5).more hs5).at_ hj
          obtain ⟨ar, pr, rfl, hpr, habr, r0, r1⟩ := t2_cells ((hr2.below hb5).more hs5) hkR
          have hjn : v < n1 := by rw [← hl1.out]; exact hj
          have v0 : (0 : Int) ≤ (v : Int) := by omega
          have v1 : (v : Int) < (n1 : Int) := by omega
          have hjs := hs1.out _ (List.getElem_mem hj)
          have HP6 := Lib.hid (hok2.out _ (List.getElem_mem hkR))
          have HV4 := Lib.hid (HV3.out R[k] J[v] (List.getElem?_eq_getElem hkR) (List.getElem?_eq_getElem hj))
          obtain ⟨j, hje⟩ : ∃ x, x = J[v] := ⟨_, rfl⟩
          obtain ⟨p, hpe⟩ : ∃ x, x = R[k] := ⟨_, rfl⟩
          rw [← hje] at t0 t1 t2 hrj hjs HV4
          rw [← hpe] at r0 r1 HP6 HV4
          have HRJ := Lib.hid hrj
          have HJS := Lib.hid hjs
          obtain ⟨m9, hm9⟩ : ∃ m, j.seen.length = m := ⟨_, rfl⟩
          rw [hm9] at t2
          have HM9 := Lib.hid hm9
          clear hje hpe hrj hm9 hjs
          cases hM : mjB T j p.1 p.2 with
          | false =>
            have HV := Lib.hid (HNO.out (HV4.out.trans hM))
            have HM := Lib.hid hM
            clear hM
            have KE := fun (u : World) (q : Below W5.heap.size W5 u) => show Below W5.heap.size W5 u ∧ u.cell? ⟨wr.heap.size, 0, none⟩ = some (.int .i64 a) ∧ (Instr.lookup 118 (.map (some W1.heap.size)) (.int .i64 a) false).run Try.prog u = .ok (.bool false) u ∧ u.cell? pj = some (.int .i64 j.id) ∧ u.cell? ⟨pj.block, pj.off + 1, none⟩ = some (.int .i64 j.club) ∧ u.cell? ⟨pj.block, pj.off + 2, none⟩ = some (.slice Aj m9 cj) ∧ u.cell? pr = some (.int .i64 p.1) ∧ u.cell? ⟨pr.block, pr.off + 1, none⟩ = some (.int .i64 p.2) from ⟨q, nwc5 q g5, (by have h : _ = Result.ok (Value.bool ((I.take k).contains a)) _ := (hm5.out.new q).get bm_under HA6.out; rw [HLK.out] at h; exact h), nwc5 q t0, nwc5 q t1, nwc5 q t2, nwc5 q r0, nwc5 q r1⟩
            go_wp2_with fail
            refine wp_region_quiet (C := fun u => Below W5.heap.size W5 u ∧ u.cell? ⟨wr.heap.size, 0, none⟩ = some (.int .i64 a) ∧ (Instr.lookup 118 (.map (some W1.heap.size)) (.int .i64 a) false).run Try.prog u = .ok (.bool false) u ∧ u.cell? pj = some (.int .i64 j.id) ∧ u.cell? ⟨pj.block, pj.off + 1, none⟩ = some (.int .i64 j.club) ∧ u.cell? ⟨pj.block, pj.off + 2, none⟩ = some (.slice Aj m9 cj) ∧ u.cell? pr = some (.int .i64 p.1) ∧ u.cell? ⟨pr.block, pr.off + 1, none⟩ = some (.int .i64 p.2)) (by kernel_rfl) (by kernel_rfl) (KE _ (Below.refl W5.heap.size W5).drew) ?_
            rw [List.toList_toArray]
            go_big_quiet_want
            go_big_quiet_op
            go_big_quiet_on
            go_big_quiet_want
            apply Exists.intro
            refine ⟨fun u hu => ?_, ?_⟩
            · obtain ⟨hu0, hu1, hu2, hu3, hu4, hu5, hu6, hu7⟩ := hu
              unfold Oper.quietAt
              go_simp
              try rfl
            simp only [Act.put, List.setIfInBounds_toArray, List.set_cons_zero, List.set_cons_succ]
            go_big_quiet_on
            go_big_quiet_want
            go_big_quiet_op
            go_big_quiet_on
            go_big_quiet_want
            go_big_quiet_op
            go_big_quiet_on
            go_big_quiet_want
            apply Exists.intro
            refine ⟨fun u hu => ?_, ?_⟩
            · obtain ⟨hu0, hu1, hu2, hu3, hu4, hu5, hu6, hu7⟩ := hu
              unfold Oper.quietAt
              go_simp
              try rfl
            simp only [Act.put, List.setIfInBounds_toArray, List.set_cons_zero, List.set_cons_succ]
            go_big_quiet_on
            go_big_quiet_want
            apply Exists.intro
            refine ⟨fun u hu => ?_, ?_⟩
            · obtain ⟨hu0, hu1, hu2, hu3, hu4, hu5, hu6, hu7⟩ := hu
              unfold Oper.quietAt
              go_simp
              try rfl
            simp only [Act.put, List.setIfInBounds_toArray, List.set_cons_zero, List.set_cons_succ]
            go_big_quiet_on
            go_big_quiet_want
            apply Exists.intro
            refine ⟨fun u hu => ?_, ?_⟩
            · obtain ⟨hu0, hu1, hu2, hu3, hu4, hu5, hu6, hu7⟩ := hu
              unfold Oper.quietAt
              go_simp
              try rfl
            simp only [Act.put, List.setIfInBounds_toArray, List.set_cons_zero, List.set_cons_succ]
            go_big_quiet_on
            go_big_quiet_want
            go_big_quiet_op
            go_big_quiet_on
            go_big_quiet_want
            go_big_quiet_op
            go_big_quiet_on
            go_big_quiet_want
            go_big_quiet_op
            go_big_quiet_on
            go_big_quiet_want
            go_big_quiet_op
            go_big_quiet_on
            go_big_quiet_want
            apply Exists.intro
            refine ⟨fun u hu => ?_, ?_⟩
            · obtain ⟨hu0, hu1, hu2, hu3, hu4, hu5, hu6, hu7⟩ := hu
              unfold Oper.quietAt
              go_simp
              try rfl
            simp only [Act.put, List.setIfInBounds_toArray, List.set_cons_zero, List.set_cons_succ]
            go_big_quiet_on
            go_big_quiet_want
            apply Exists.intro
            refine ⟨fun u hu => ?_, ?_⟩
            · obtain ⟨hu0, hu1, hu2, hu3, hu4, hu5, hu6, hu7⟩ := hu
              unfold Oper.quietAt
              go_simp
              try rfl
            simp only [Act.put, List.setIfInBounds_toArray, List.set_cons_zero, List.set_cons_succ]
            go_big_quiet_on
            go_big_quiet_want
            go_big_quiet_op
            go_big_quiet_on
            go_big_quiet_want
            go_big_quiet_op
            go_big_quiet_on
            go_big_quiet_want
            apply Exists.intro
            refine ⟨fun u hu => ?_, ?_⟩
            · obtain ⟨hu0, hu1, hu2, hu3, hu4, hu5, hu6, hu7⟩ := hu
              unfold Oper.quietAt
              go_simp
              try rfl
            simp only [Act.put, List.setIfInBounds_toArray, List.set_cons_zero, List.set_cons_succ]
            go_big_quiet_on
            go_big_quiet_want
            apply Exists.intro
            refine ⟨fun u hu => ?_, ?_⟩
            · obtain ⟨hu0, hu1, hu2, hu3, hu4, hu5, hu6, hu7⟩ := hu
              unfold Oper.quietAt
              go_simp
              try rfl
            simp only [Act.put, List.setIfInBounds_toArray, List.set_cons_zero, List.set_cons_succ]
            go_big_quiet_on
            go_big_quiet_want
            refine ⟨.bool false, fun u hu => ?_, ?_⟩
            · obtain ⟨hu0, hu1, hu2, hu3, hu4, hu5, hu6, hu7⟩ := hu
              unfold Oper.quietAt
              go_simp
              rw [← HM9.out]
              refine (impMayJudge_any hl (by omega) HJS.out hok HP6.out.1 HP6.out.2 ((hr.below (hb5.trans (hu0.mono hs5))).more (by have := hu0.size; omega)) ((HRJ.out.below hu0).more hu0.size)).mono ?_
              rintro e u9 ⟨he, k9⟩
              rw [HM.out] at he
              rw [HM9.out]
              exact ⟨he, KE _ (hu0.trans (k9.mono hu0.size))⟩
            simp only [Act.put, List.setIfInBounds_toArray, List.set_cons_zero, List.set_cons_succ]
            go_big_quiet_on
            go_big_quiet_want
            apply Exists.intro
            refine ⟨fun u hu => ?_, ?_⟩
            · obtain ⟨hu0, hu1, hu2, hu3, hu4, hu5, hu6, hu7⟩ := hu
              unfold Oper.quietAt
              go_simp
              try rfl
            simp only [Act.put, List.setIfInBounds_toArray, List.set_cons_zero, List.set_cons_succ]
            go_big_quiet_on
            go_big_quiet_want
            apply Exists.intro
            refine ⟨fun u hu => ?_, ?_⟩
            · obtain ⟨hu0, hu1, hu2, hu3, hu4, hu5, hu6, hu7⟩ := hu
              unfold Oper.quietAt
              go_simp
              try rfl
            simp only [Act.put, List.setIfInBounds_toArray, List.set_cons_zero, List.set_cons_succ]
            go_big_quiet_on
            refine wpQuiet_nil ?_
            rintro u3 ⟨k8, e8, _⟩
            go_wp2_with fail
            go_ret
            exact ⟨ret_b HV.out.symm, hb5.trans (k8.mono hs5)⟩
          | true =>
            have HP := Lib.hid (as_snoc ha.out (HV4.out.trans hM))
            have HM := Lib.hid hM
            clear hM
            have KE := fun (u : World) (q : Below W5.heap.size W5 u) => show Below W5.heap.size W5 u ∧ u.cell? ⟨wr.heap.size, 0, none⟩ = some (.int .i64 a) ∧ (Instr.lookup 118 (.map (some W1.heap.size)) (.int .i64 a) false).run Try.prog u = .ok (.bool false) u ∧ u.cell? pj = some (.int .i64 j.id) ∧ u.cell? ⟨pj.block, pj.off + 1, none⟩ = some (.int .i64 j.club) ∧ u.cell? ⟨pj.block, pj.off + 2, none⟩ = some (.slice Aj m9 cj) ∧ u.cell? pr = some (.int .i64 p.1) ∧ u.cell? ⟨pr.block, pr.off + 1, none⟩ = some (.int .i64 p.2) from ⟨q, nwc5 q g5, (by have h : _ = Result.ok (Value.bool ((I.take k).contains a)) _ := (hm5.out.new q).get bm_under HA6.out; rw [HLK.out] at h; exact h), nwc5 q t0, nwc5 q t1, nwc5 q t2, nwc5 q r0, nwc5 q r1⟩
            go_wp2_with fail
            refine wp_region_quiet (C := fun u => Below W5.heap.size W5 u ∧ u.cell? ⟨wr.heap.size, 0, none⟩ = some (.int .i64 a) ∧ (Instr.lookup 118 (.map (some W1.heap.size)) (.int .i64 a) false).run Try.prog u = .ok (.bool false) u ∧ u.cell? pj = some (.int .i64 j.id) ∧ u.cell? ⟨pj.block, pj.off + 1, none⟩ = some (.int .i64 j.club) ∧ u.cell? ⟨pj.block, pj.off + 2, none⟩ = some (.slice Aj m9 cj) ∧ u.cell? pr = some (.int .i64 p.1) ∧ u.cell? ⟨pr.block, pr.off + 1, none⟩ = some (.int .i64 p.2)) (by kernel_rfl) (by kernel_rfl) (KE _ (Below.refl W5.heap.size W5).drew) ?_
            rw [List.toList_toArray]
            go_big_quiet_want
            go_big_quiet_op
            go_big_quiet_on
            go_big_quiet_want
            apply Exists.intro
            refine ⟨fun u hu => ?_, ?_⟩
            · obtain ⟨hu0, hu1, hu2, hu3, hu4, hu5, hu6, hu7⟩ := hu
              unfold Oper.quietAt
              go_simp
              try rfl
            simp only [Act.put, List.setIfInBounds_toArray, List.set_cons_zero, List.set_cons_succ]
            go_big_quiet_on
            go_big_quiet_want
            go_big_quiet_op
            go_big_quiet_on
            go_big_quiet_want
            go_big_quiet_op
            go_big_quiet_on
            go_big_quiet_want
            apply Exists.intro
            refine ⟨fun u hu => ?_, ?_⟩
            · obtain ⟨hu0, hu1, hu2, hu3, hu4, hu5, hu6, hu7⟩ := hu
              unfold Oper.quietAt
              go_simp
              try rfl
            simp only [Act.put, List.setIfInBounds_toArray, List.set_cons_zero, List.set_cons_succ]
            go_big_quiet_on
            go_big_quiet_want
            apply Exists.intro
            refine ⟨fun u hu => ?_, ?_⟩
            · obtain ⟨hu0, hu1, hu2, hu3, hu4, hu5, hu6, hu7⟩ := hu
              unfold Oper.quietAt
              go_simp
              try rfl
            simp only [Act.put, List.setIfInBounds_toArray, List.set_cons_zero, List.set_cons_succ]
            go_big_quiet_on
            go_big_quiet_want
            apply Exists.intro
            refine ⟨fun u hu => ?_, ?_⟩
            · obtain ⟨hu0, hu1, hu2, hu3, hu4, hu5, hu6, hu7⟩ := hu
              unfold Oper.quietAt
              go_simp
              try rfl
            simp only [Act.put, List.setIfInBounds_toArray, List.set_cons_zero, List.set_cons_succ]
            go_big_quiet_on
            go_big_quiet_want
            go_big_quiet_op
            go_big_quiet_on
            go_big_quiet_want
            go_big_quiet_op
            go_big_quiet_on
            go_big_quiet_want
            go_big_quiet_op
            go_big_quiet_on
            go_big_quiet_want
            go_big_quiet_op
            go_big_quiet_on
            go_big_quiet_want
            apply Exists.intro
            refine ⟨fun u hu => ?_, ?_⟩
            · obtain ⟨hu0, hu1, hu2, hu3, hu4, hu5, hu6, hu7⟩ := hu
              unfold Oper.quietAt
              go_simp
              try rfl
            simp only [Act.put, List.setIfInBounds_toArray, List.set_cons_zero, List.set_cons_succ]
            go_big_quiet_on
            go_big_quiet_want
            apply Exists.intro
            refine ⟨fun u hu => ?_, ?_⟩
            · obtain ⟨hu0, hu1, hu2, hu3, hu4, hu5, hu6, hu7⟩ := hu
              unfold Oper.quietAt
              go_simp
              try rfl
            simp only [Act.put, List.setIfInBounds_toArray, List.set_cons_zero, List.set_cons_succ]
            go_big_quiet_on
            go_big_quiet_want
            go_big_quiet_op
            go_big_quiet_on
            go_big_quiet_want
            go_big_quiet_op
            go_big_quiet_on
            go_big_quiet_want
            apply Exists.intro
            refine ⟨fun u hu => ?_, ?_⟩
            · obtain ⟨hu0, hu1, hu2, hu3, hu4, hu5, hu6, hu7⟩ := hu
              unfold Oper.quietAt
              go_simp
              try rfl
            simp only [Act.put, List.setIfInBounds_toArray, List.set_cons_zero, List.set_cons_succ]
            go_big_quiet_on
            go_big_quiet_want
            apply Exists.intro
            refine ⟨fun u hu => ?_, ?_⟩
            · obtain ⟨hu0, hu1, hu2, hu3, hu4, hu5, hu6, hu7⟩ := hu
              unfold Oper.quietAt
              go_simp
              try rfl
            simp only [Act.put, List.setIfInBounds_toArray, List.set_cons_zero, List.set_cons_succ]
            go_big_quiet_on
            go_big_quiet_want
            refine ⟨.bool true, fun u hu => ?_, ?_⟩
            · obtain ⟨hu0, hu1, hu2, hu3, hu4, hu5, hu6, hu7⟩ := hu
              unfold Oper.quietAt
              go_simp
              rw [← HM9.out]
              refine (impMayJudge_any hl (by omega) HJS.out hok HP6.out.1 HP6.out.2 ((hr.below (hb5.trans (hu0.mono hs5))).more (by have := hu0.size; omega)) ((HRJ.out.below hu0).more hu0.size)).mono ?_
              rintro e u9 ⟨he, k9⟩
              rw [HM.out] at he
              rw [HM9.out]
              exact ⟨he, KE _ (hu0.trans (k9.mono hu0.size))⟩
            simp only [Act.put, List.setIfInBounds_toArray, List.set_cons_zero, List.set_cons_succ]
            go_big_quiet_on
            go_big_quiet_want
            apply Exists.intro
            refine ⟨fun u hu => ?_, ?_⟩
            · obtain ⟨hu0, hu1, hu2, hu3, hu4, hu5, hu6, hu7⟩ := hu
              unfold Oper.quietAt
              go_simp
              try rfl
            simp only [Act.put, List.setIfInBounds_toArray, List.set_cons_zero, List.set_cons_succ]
            go_big_quiet_on
            go_big_quiet_want
            apply Exists.intro
            refine ⟨fun u hu => ?_, ?_⟩
            · obtain ⟨hu0, hu1, hu2, hu3, hu4, hu5, hu6, hu7⟩ := hu
              unfold Oper.quietAt
              go_simp
              try rfl
            simp only [Act.put, List.setIfInBounds_toArray, List.set_cons_zero, List.set_cons_succ]
            go_big_quiet_on
            refine wpQuiet_nil ?_
            rintro u3 ⟨k8, e8, _⟩
            have hb8 := hb5.trans (k8.mono hs5)
            obtain ⟨W9, hu9, hm9, o9⟩ := (hm5.out.new k8).put bm_under (by omega) HA6.out true
            rw [HTK.out] at hm9
            have HM9b := Lib.hid hm9
            have hb9 := hb8.trans (o9.below (by omega) hb8.size)
            clear hm9 o9
            go_wp2_with fail
            go_roundw
            case rel => exact ⟨k + 1, by omega, by go_num, hb9, HM9b, HP⟩
            case measure => simp [intOf]; omega
    · have e : k = n3 := by omega
      subst e
      have HV := Lib.hid (as_yes (T := T) HB.out hl3.out hl2.out ha.out)
      go_wp2_with fail
      go_ret
      exact ⟨ret_b HV.out.symm, hb⟩
end Go.Proofs.Ythkigilegnjglaa
