/- Contracts of the models l19Count, AreTeams. Condition: integers of 64 bits; the slice has at most 2^20 elements, each team's at most 2^20. -/
import Derived.Test.YthkigilegnjglaaMg16
import Derived.Test.YthkigilegnjglaaTmM
import Derived.BigQuiet
import Derived.Deep.Quiet
namespace Go.Proofs.Ythkigilegnjglaa
open Go.ChangeShapes Go.WideShapes Go.ChangeAt Go.RowKit
set_option maxRecDepth 100000
theorem cnt_same {S : List Int} {a : Int} {k : Nat} (hk : k < S.length) (h : S[k] = a) : (S.take (k + 1)).count a = (S.take k).count a + 1 := by
  rw [List.take_succ_eq_append_getElem hk, List.count_append, h]; simp
theorem cnt_diff {S : List Int} {a : Int} {k : Nat} (hk : k < S.length) (h : S[k] ≠ a) : (S.take (k + 1)).count a = (S.take k).count a := by
  rw [List.take_succ_eq_append_getElem hk, List.count_append]
  simp [h]
set_option maxHeartbeats 1000000 in
theorem l19Count_any {w : World} {A : Option Addr} {n c : Nat} {a : Int} {S : List Int} (hl : Hid (S.length = n)) (hn : n ≤ 1099511627776) (hr : Rd w w.heap.size A (ivs S)) :
    Calls Try.prog 73 #[.slice A n c, .int .i64 a] w (fun e w' => e = .returned (.int .i64 ((S.count a : Nat) : Int)) ∧ w = w') := by
  go_enter Try.func73, Try.ntmps73
  go_wp2_with fail
  go_loopw [5, 6] (fun s i wr => ∃ (k t : Nat), k ≤ n ∧ i = .int .i64 k ∧ s = .int .i64 t ∧ Hid ((S.take k).count a = t) ∧ t ≤ k ∧ wr = w) (fun _ i _ => n - (intOf i).toNat)
  case atStart => exact ⟨0, 0, Nat.zero_le _, rfl, rfl, Lib.hid rfl, Nat.le_refl _, rfl⟩
  case round =>
    obtain ⟨k, t, hk, rfl, rfl, ht, htb, rfl⟩ := hrel
    by_cases hlt : k < n
    · have hkz : k < S.length := by rw [hl.out]; exact hlt
      obtain ⟨ad, rfl, hab, hc0⟩ := ivs_at hr hkz
      have i0 : (0 : Int) ≤ (k : Int) := by omega
      have i1 : (k : Int) < (n : Int) := by omega
      by_cases h1 : S[k] = a
      · have HV := Lib.hid (show (S.take (k + 1)).count a = t + 1 by rw [cnt_same hkz h1, ht.out])
        rw [h1] at hc0
        clear h1
        go_wp2_with fail
        go_roundw
        case rel => exact ⟨k + 1, t + 1, by omega, by go_num, by go_num, HV, by omega, trivial⟩
        case measure => simp [intOf]; omega
      · have HV := Lib.hid (show (S.take (k + 1)).count a = t by rw [cnt_diff hkz h1, ht.out])
        obtain ⟨z, hz⟩ : ∃ z, z = S[k] := ⟨_, rfl⟩
        rw [← hz] at hc0 h1
        have h1' : (z == a) = false := by simpa using h1
        clear hz h1
        go_wp2_with fail
        go_roundw
        case rel => exact ⟨k + 1, t, by omega, by go_num, by first | rfl | go_num, HV, by omega, trivial⟩
        case measure => simp [intOf]; omega
    · have e : k = n := by omega
      subst e
      have HT := Lib.hid (show ((t : Nat) : Int) = ((S.count a : Nat) : Int) by rw [← ht.out, List.take_of_length_le (by rw [hl.out]; exact Nat.le_refl _)])
      go_wp2_with fail
      go_ret
      exact ⟨ret_i HT.out, rfl⟩
set_option maxHeartbeats 16000000 in
theorem specAreTeams_any {w : World} {A : Option Addr} {n c : Nat} {X : List Tm} (hl : Hid (X.length = n)) (hn : n ≤ 1048576) (hs : Hid (∀ x ∈ X, x.met.length ≤ 1048576)) (hr : RdT w w.heap.size A X) :
    Calls Try.prog 21 #[.slice A n c] w (Tells (atB X) w) := by
  go_enter Try.func21, Try.ntmps21
  go_wp2_with fail
  go_loopw [3] (fun i wr => ∃ k : Nat, k ≤ n ∧ i = .int .i64 k ∧ Hid ((List.range k).all (atAt X) = true) ∧ Below w.heap.size w wr) (fun i _ => n - (intOf i).toNat)
  case atStart => exact ⟨0, Nat.zero_le _, rfl, Lib.hid rfl, Below.refl _ _⟩
  case round =>
    obtain ⟨k, hk, rfl, ha, hb⟩ := hrel
    by_cases hlt : k < n
    · have hkz : k < X.length := by rw [hl.out]; exact hlt
      have hsz := hb.size
      have hrr := (hr.below hb).more hb.size
      obtain ⟨ad, p, rfl, hp, hab, Aj, cj, h0, h1, h2, h3, h4, h5, _, _, hrj⟩ := hrr.at_ hkz
      have i0 : (0 : Int) ≤ (k : Int) := by omega
      have i1 : (k : Int) < (n : Int) := by omega
      have hD := te_ids hkz
      have hsn := hs.out _ (List.getElem_mem hkz)
      have HG := Lib.hid (te_gd hkz)
      have hmem : ∀ z : Int, z = z := fun _ => rfl
      obtain ⟨x, hx⟩ : ∃ x, x = X[k] := ⟨_, rfl⟩
      rw [← hx] at h0 h1 h2 h3 h4 h5 hrj hD hsn HG
      have HD := Lib.hid hD
      obtain ⟨m9, hm9⟩ : ∃ m, x.met.length = m := ⟨_, rfl⟩
      rw [hm9] at h5 hsn
      have HM9 := Lib.hid hm9
      have b2 := alloc_m wr (Obj.cells #[Value.int .i64 x.id, .int .i64 x.club, .int .i64 x.wins, .int .i64 x.pts, .int .i64 x.firsts, .slice Aj m9 cj] 82)
      have bx := Bx.made wr 82 #[Value.int .i64 x.id, .int .i64 x.club, .int .i64 x.wins, .int .i64 x.pts, .int .i64 x.firsts, .slice Aj m9 cj]
      obtain ⟨W2, hW2⟩ : ∃ u, wr.alloc (Obj.cells #[Value.int .i64 x.id, .int .i64 x.club, .int .i64 x.wins, .int .i64 x.pts, .int .i64 x.firsts, .slice Aj m9 cj] 82) = u := ⟨_, rfl⟩
      rw [hW2] at b2 bx
      have HW2 := Lib.hid hW2
      have c0 := bx.at_ (k := 0) (v := .int .i64 x.id) rfl
      have c1 := bx.at_ (k := 1) (v := .int .i64 x.club) rfl
      have c2 := bx.at_ (k := 2) (v := .int .i64 x.wins) rfl
      have c3 := bx.at_ (k := 3) (v := .int .i64 x.pts) rfl
      have c4 := bx.at_ (k := 4) (v := .int .i64 x.firsts) rfl
      have c5 := bx.at_ (k := 5) (v := .slice Aj m9 cj) rfl
      obtain ⟨G, hG⟩ : ∃ G, wr.heap.size = G := ⟨_, rfl⟩
      rw [hG] at c0 c1 c2 c3 c4 c5
      have hbw := hb.trans (b2.mono hsz)
      have hsw := hbw.size
      have hrw := (hrr.below b2).more b2.size
      have hrjw := (hrj.below b2).more b2.size
      have HNO := Lib.hid (fun h => te_no (X := X) hkz h)
      clear hx hD hW2 hm9 bx
      cases q1 : inr x.id 1 99 with
      | false =>
        have HV := Lib.hid (HNO.out (atAt_a (asc_0 HD.out q1)))
        have H1 := Lib.hid q1
        clear q1
        have KE := fun (u : World) (q : Below W2.heap.size W2 u) => show Below W2.heap.size W2 u ∧ u.cell? ⟨G, 0, none⟩ = some (.int .i64 x.id) ∧ u.cell? ⟨G, 1, none⟩ = some (.int .i64 x.club) ∧ u.cell? ⟨G, 2, none⟩ = some (.int .i64 x.wins) ∧ u.cell? ⟨G, 3, none⟩ = some (.int .i64 x.pts) ∧ u.cell? ⟨G, 4, none⟩ = some (.int .i64 x.firsts) ∧ u.cell? ⟨G, 5, none⟩ = some (.slice Aj m9 cj) from ⟨q, nwc5 q c0, nwc5 q c1, nwc5 q c2, nwc5 q c3, nwc5 q c4, nwc5 q c5⟩
        go_wp2_with fail
        rw [HW2.out]
        try (go_wp2_with fail)
        refine wp_region_quiet (C := fun u => Below W2.heap.size W2 u ∧ u.cell? ⟨G, 0, none⟩ = some (.int .i64 x.id) ∧ u.cell? ⟨G, 1, none⟩ = some (.int .i64 x.club) ∧ u.cell? ⟨G, 2, none⟩ = some (.int .i64 x.wins) ∧ u.cell? ⟨G, 3, none⟩ = some (.int .i64 x.pts) ∧ u.cell? ⟨G, 4, none⟩ = some (.int .i64 x.firsts) ∧ u.cell? ⟨G, 5, none⟩ = some (.slice Aj m9 cj)) (by kernel_rfl) (by kernel_rfl) (KE _ (Below.refl W2.heap.size W2).drew) ?_
        rw [List.toList_toArray]
        go_big_quiet_want
        apply Exists.intro
        refine ⟨fun u hu => ?_, ?_⟩
        · obtain ⟨hu0, hu1, hu2, hu3, hu4, hu5, hu6⟩ := hu
          unfold Oper.quietAt
          go_simp
          try rfl
        simp only [Act.put, List.setIfInBounds_toArray, List.set_cons_zero, List.set_cons_succ]
        go_big_quiet_on
        go_big_quiet_want
        apply Exists.intro
        refine ⟨fun u hu => ?_, ?_⟩
        · obtain ⟨hu0, hu1, hu2, hu3, hu4, hu5, hu6⟩ := hu
          unfold Oper.quietAt
          go_simp
          try rfl
        simp only [Act.put, List.setIfInBounds_toArray, List.set_cons_zero, List.set_cons_succ]
        go_big_quiet_on
        go_big_quiet_want
        refine ⟨.bool false, fun u hu => ?_, ?_⟩
        · obtain ⟨hu0, hu1, hu2, hu3, hu4, hu5, hu6⟩ := hu
          unfold Oper.quietAt
          go_simp
          refine (l1In_any _ _ _ _).mono ?_
          rintro e u9 ⟨he, rfl⟩
          rw [H1.out] at he
          exact ⟨he, KE _ hu0⟩
        simp only [Act.put, List.setIfInBounds_toArray, List.set_cons_zero, List.set_cons_succ]
        go_big_quiet_on
        go_big_quiet_want
        apply Exists.intro
        refine ⟨fun u hu => ?_, ?_⟩
        · obtain ⟨hu0, hu1, hu2, hu3, hu4, hu5, hu6⟩ := hu
          unfold Oper.quietAt
          go_simp
          try rfl
        simp only [Act.put, List.setIfInBounds_toArray, List.set_cons_zero, List.set_cons_succ]
        go_big_quiet_on
        go_big_quiet_want
        go_big_quiet_op
        go_big_quiet_on
        repeat go_big_quiet_skip
        go_big_quiet_want
        apply Exists.intro
        refine ⟨fun u hu => ?_, ?_⟩
        · obtain ⟨hu0, hu1, hu2, hu3, hu4, hu5, hu6⟩ := hu
          unfold Oper.quietAt
          go_simp
          try rfl
        simp only [Act.put, List.setIfInBounds_toArray, List.set_cons_zero, List.set_cons_succ]
        go_big_quiet_on
        go_big_quiet_want
        go_big_quiet_op
        go_big_quiet_on
        repeat go_big_quiet_skip
        go_big_quiet_want
        apply Exists.intro
        refine ⟨fun u hu => ?_, ?_⟩
        · obtain ⟨hu0, hu1, hu2, hu3, hu4, hu5, hu6⟩ := hu
          unfold Oper.quietAt
          go_simp
          try rfl
        simp only [Act.put, List.setIfInBounds_toArray, List.set_cons_zero, List.set_cons_succ]
        go_big_quiet_on
        go_big_quiet_want
        go_big_quiet_op
        go_big_quiet_on
        repeat go_big_quiet_skip
        go_big_quiet_want
        apply Exists.intro
        refine ⟨fun u hu => ?_, ?_⟩
        · obtain ⟨hu0, hu1, hu2, hu3, hu4, hu5, hu6⟩ := hu
          unfold Oper.quietAt
          go_simp
          try rfl
        simp only [Act.put, List.setIfInBounds_toArray, List.set_cons_zero, List.set_cons_succ]
        go_big_quiet_on
        go_big_quiet_want
        go_big_quiet_op
        go_big_quiet_on
        repeat go_big_quiet_skip
        go_big_quiet_want
        apply Exists.intro
        refine ⟨fun u hu => ?_, ?_⟩
        · obtain ⟨hu0, hu1, hu2, hu3, hu4, hu5, hu6⟩ := hu
          unfold Oper.quietAt
          go_simp
          try rfl
        simp only [Act.put, List.setIfInBounds_toArray, List.set_cons_zero, List.set_cons_succ]
        go_big_quiet_on
        go_big_quiet_want
        go_big_quiet_op
        go_big_quiet_on
        repeat go_big_quiet_skip
        go_big_quiet_want
        apply Exists.intro
        refine ⟨fun u hu => ?_, ?_⟩
        · obtain ⟨hu0, hu1, hu2, hu3, hu4, hu5, hu6⟩ := hu
          unfold Oper.quietAt
          go_simp
          try rfl
        simp only [Act.put, List.setIfInBounds_toArray, List.set_cons_zero, List.set_cons_succ]
        go_big_quiet_on
        go_big_quiet_want
        go_big_quiet_op
        go_big_quiet_on
        repeat go_big_quiet_skip
        go_big_quiet_want
        apply Exists.intro
        refine ⟨fun u hu => ?_, ?_⟩
        · obtain ⟨hu0, hu1, hu2, hu3, hu4, hu5, hu6⟩ := hu
          unfold Oper.quietAt
          go_simp
          try rfl
        simp only [Act.put, List.setIfInBounds_toArray, List.set_cons_zero, List.set_cons_succ]
        go_big_quiet_on
        refine wpQuiet_nil ?_
        rintro u ⟨k9, d0, d1, d2, d3, d4, d5⟩
        go_wp2_with fail
        go_ret
        exact ⟨ret_b HV.out.symm, hbw.trans (k9.mono hsw)⟩
      | true =>
        cases q2 : inr x.club 1 99 with
        | false =>
          have HV := Lib.hid (HNO.out (atAt_p HG.out (tmP_1 (by first | exact q2 | (rw [HM9.out]; exact q2)))))
          have H1 := Lib.hid q1
          have H2 := Lib.hid q2
          clear q1 q2
          have KE := fun (u : World) (q : Below W2.heap.size W2 u) => show Below W2.heap.size W2 u ∧ u.cell? ⟨G, 0, none⟩ = some (.int .i64 x.id) ∧ u.cell? ⟨G, 1, none⟩ = some (.int .i64 x.club) ∧ u.cell? ⟨G, 2, none⟩ = some (.int .i64 x.wins) ∧ u.cell? ⟨G, 3, none⟩ = some (.int .i64 x.pts) ∧ u.cell? ⟨G, 4, none⟩ = some (.int .i64 x.firsts) ∧ u.cell? ⟨G, 5, none⟩ = some (.slice Aj m9 cj) from ⟨q, nwc5 q c0, nwc5 q c1, nwc5 q c2, nwc5 q c3, nwc5 q c4, nwc5 q c5⟩
          go_wp2_with fail
          rw [HW2.out]
          try (go_wp2_with fail)
          refine wp_region_quiet (C := fun u => Below W2.heap.size W2 u ∧ u.cell? ⟨G, 0, none⟩ = some (.int .i64 x.id) ∧ u.cell? ⟨G, 1, none⟩ = some (.int .i64 x.club) ∧ u.cell? ⟨G, 2, none⟩ = some (.int .i64 x.wins) ∧ u.cell? ⟨G, 3, none⟩ = some (.int .i64 x.pts) ∧ u.cell? ⟨G, 4, none⟩ = some (.int .i64 x.firsts) ∧ u.cell? ⟨G, 5, none⟩ = some (.slice Aj m9 cj)) (by kernel_rfl) (by kernel_rfl) (KE _ (Below.refl W2.heap.size W2).drew) ?_
          rw [List.toList_toArray]
          go_big_quiet_want
          apply Exists.intro
          refine ⟨fun u hu => ?_, ?_⟩
          · obtain ⟨hu0, hu1, hu2, hu3, hu4, hu5, hu6⟩ := hu
            unfold Oper.quietAt
            go_simp
            try rfl
          simp only [Act.put, List.setIfInBounds_toArray, List.set_cons_zero, List.set_cons_succ]
          go_big_quiet_on
          go_big_quiet_want
          apply Exists.intro
          refine ⟨fun u hu => ?_, ?_⟩
          · obtain ⟨hu0, hu1, hu2, hu3, hu4, hu5, hu6⟩ := hu
            unfold Oper.quietAt
            go_simp
            try rfl
          simp only [Act.put, List.setIfInBounds_toArray, List.set_cons_zero, List.set_cons_succ]
          go_big_quiet_on
          go_big_quiet_want
          refine ⟨.bool true, fun u hu => ?_, ?_⟩
          · obtain ⟨hu0, hu1, hu2, hu3, hu4, hu5, hu6⟩ := hu
            unfold Oper.quietAt
            go_simp
            refine (l1In_any _ _ _ _).mono ?_
            rintro e u9 ⟨he, rfl⟩
            rw [H1.out] at he
            exact ⟨he, KE _ hu0⟩
          simp only [Act.put, List.setIfInBounds_toArray, List.set_cons_zero, List.set_cons_succ]
          go_big_quiet_on
          go_big_quiet_want
          apply Exists.intro
          refine ⟨fun u hu => ?_, ?_⟩
          · obtain ⟨hu0, hu1, hu2, hu3, hu4, hu5, hu6⟩ := hu
            unfold Oper.quietAt
            go_simp
            try rfl
          simp only [Act.put, List.setIfInBounds_toArray, List.set_cons_zero, List.set_cons_succ]
          go_big_quiet_on
          go_big_quiet_want
          go_big_quiet_op
          go_big_quiet_on
          go_big_quiet_want
          apply Exists.intro
          refine ⟨fun u hu => ?_, ?_⟩
          · obtain ⟨hu0, hu1, hu2, hu3, hu4, hu5, hu6⟩ := hu
            unfold Oper.quietAt
            go_simp
            try rfl
          simp only [Act.put, List.setIfInBounds_toArray, List.set_cons_zero, List.set_cons_succ]
          go_big_quiet_on
          go_big_quiet_want
          apply Exists.intro
          refine ⟨fun u hu => ?_, ?_⟩
          · obtain ⟨hu0, hu1, hu2, hu3, hu4, hu5, hu6⟩ := hu
            unfold Oper.quietAt
            go_simp
            try rfl
          simp only [Act.put, List.setIfInBounds_toArray, List.set_cons_zero, List.set_cons_succ]
          go_big_quiet_on
          go_big_quiet_want
          refine ⟨.bool false, fun u hu => ?_, ?_⟩
          · obtain ⟨hu0, hu1, hu2, hu3, hu4, hu5, hu6⟩ := hu
            unfold Oper.quietAt
            go_simp
            refine (l1In_any _ _ _ _).mono ?_
            rintro e u9 ⟨he, rfl⟩
            rw [H2.out] at he
            exact ⟨he, KE _ hu0⟩
          simp only [Act.put, List.setIfInBounds_toArray, List.set_cons_zero, List.set_cons_succ]
          go_big_quiet_on
          go_big_quiet_want
          apply Exists.intro
          refine ⟨fun u hu => ?_, ?_⟩
          · obtain ⟨hu0, hu1, hu2, hu3, hu4, hu5, hu6⟩ := hu
            unfold Oper.quietAt
            go_simp
            try rfl
          simp only [Act.put, List.setIfInBounds_toArray, List.set_cons_zero, List.set_cons_succ]
          go_big_quiet_on
          go_big_quiet_want
          apply Exists.intro
          refine ⟨fun u hu => ?_, ?_⟩
          · obtain ⟨hu0, hu1, hu2, hu3, hu4, hu5, hu6⟩ := hu
            unfold Oper.quietAt
            go_simp
            try rfl
          simp only [Act.put, List.setIfInBounds_toArray, List.set_cons_zero, List.set_cons_succ]
          go_big_quiet_on
          go_big_quiet_want
          go_big_quiet_op
          go_big_quiet_on
          repeat go_big_quiet_skip
          go_big_quiet_want
          apply Exists.intro
          refine ⟨fun u hu => ?_, ?_⟩
          · obtain ⟨hu0, hu1, hu2, hu3, hu4, hu5, hu6⟩ := hu
            unfold Oper.quietAt
            go_simp
            try rfl
          simp only [Act.put, List.setIfInBounds_toArray, List.set_cons_zero, List.set_cons_succ]
          go_big_quiet_on
          go_big_quiet_want
          go_big_quiet_op
          go_big_quiet_on
          repeat go_big_quiet_skip
          go_big_quiet_want
          apply Exists.intro
          refine ⟨fun u hu => ?_, ?_⟩
          · obtain ⟨hu0, hu1, hu2, hu3, hu4, hu5, hu6⟩ := hu
            unfold Oper.quietAt
            go_simp
            try rfl
          simp only [Act.put, List.setIfInBounds_toArray, List.set_cons_zero, List.set_cons_succ]
          go_big_quiet_on
          go_big_quiet_want
          go_big_quiet_op
          go_big_quiet_on
          repeat go_big_quiet_skip
          go_big_quiet_want
          apply Exists.intro
          refine ⟨fun u hu => ?_, ?_⟩
          · obtain ⟨hu0, hu1, hu2, hu3, hu4, hu5, hu6⟩ := hu
            unfold Oper.quietAt
            go_simp
            try rfl
          simp only [Act.put, List.setIfInBounds_toArray, List.set_cons_zero, List.set_cons_succ]
          go_big_quiet_on
          go_big_quiet_want
          go_big_quiet_op
          go_big_quiet_on
          repeat go_big_quiet_skip
          go_big_quiet_want
          apply Exists.intro
          refine ⟨fun u hu => ?_, ?_⟩
          · obtain ⟨hu0, hu1, hu2, hu3, hu4, hu5, hu6⟩ := hu
            unfold Oper.quietAt
            go_simp
            try rfl
          simp only [Act.put, List.setIfInBounds_toArray, List.set_cons_zero, List.set_cons_succ]
          go_big_quiet_on
          go_big_quiet_want
          go_big_quiet_op
          go_big_quiet_on
          repeat go_big_quiet_skip
          go_big_quiet_want
          apply Exists.intro
          refine ⟨fun u hu => ?_, ?_⟩
          · obtain ⟨hu0, hu1, hu2, hu3, hu4, hu5, hu6⟩ := hu
            unfold Oper.quietAt
            go_simp
            try rfl
          simp only [Act.put, List.setIfInBounds_toArray, List.set_cons_zero, List.set_cons_succ]
          go_big_quiet_on
          refine wpQuiet_nil ?_
          rintro u ⟨k9, d0, d1, d2, d3, d4, d5⟩
          go_wp2_with fail
          go_ret
          exact ⟨ret_b HV.out.symm, hbw.trans (k9.mono hsw)⟩
        | true =>
          cases q3 : inr x.wins 0 m9 with
          | false =>
            have HV := Lib.hid (HNO.out (atAt_p HG.out (tmP_2 (by first | exact q3 | (rw [HM9.out]; exact q3)))))
            have H1 := Lib.hid q1
            have H2 := Lib.hid q2
            have H3 := Lib.hid q3
            clear q1 q2 q3
            have KE := fun (u : World) (q : Below W2.heap.size W2 u) => show Below W2.heap.size W2 u ∧ u.cell? ⟨G, 0, none⟩ = some (.int .i64 x.id) ∧ u.cell? ⟨G, 1, none⟩ = some (.int .i64 x.club) ∧ u.cell? ⟨G, 2, none⟩ = some (.int .i64 x.wins) ∧ u.cell? ⟨G, 3, none⟩ = some (.int .i64 x.pts) ∧ u.cell? ⟨G, 4, none⟩ = some (.int .i64 x.firsts) ∧ u.cell? ⟨G, 5, none⟩ = some (.slice Aj m9 cj) from ⟨q, nwc5 q c0, nwc5 q c1, nwc5 q c2, nwc5 q c3, nwc5 q c4, nwc5 q c5⟩
            go_wp2_with fail
            rw [HW2.out]
            try (go_wp2_with fail)
            refine wp_region_quiet (C := fun u => Below W2.heap.size W2 u ∧ u.cell? ⟨G, 0, none⟩ = some (.int .i64 x.id) ∧ u.cell? ⟨G, 1, none⟩ = some (.int .i64 x.club) ∧ u.cell? ⟨G, 2, none⟩ = some (.int .i64 x.wins) ∧ u.cell? ⟨G, 3, none⟩ = some (.int .i64 x.pts) ∧ u.cell? ⟨G, 4, none⟩ = some (.int .i64 x.firsts) ∧ u.cell? ⟨G, 5, none⟩ = some (.slice Aj m9 cj)) (by kernel_rfl) (by kernel_rfl) (KE _ (Below.refl W2.heap.size W2).drew) ?_
            rw [List.toList_toArray]
            go_big_quiet_want
            apply Exists.intro
            refine ⟨fun u hu => ?_, ?_⟩
            · obtain ⟨hu0, hu1, hu2, hu3, hu4, hu5, hu6⟩ := hu
              unfold Oper.quietAt
              go_simp
              try rfl
            simp only [Act.put, List.setIfInBounds_toArray, List.set_cons_zero, List.set_cons_succ]
            go_big_quiet_on
            go_big_quiet_want
            apply Exists.intro
            refine ⟨fun u hu => ?_, ?_⟩
            · obtain ⟨hu0, hu1, hu2, hu3, hu4, hu5, hu6⟩ := hu
              unfold Oper.quietAt
              go_simp
              try rfl
            simp only [Act.put, List.setIfInBounds_toArray, List.set_cons_zero, List.set_cons_succ]
            go_big_quiet_on
            go_big_quiet_want
            refine ⟨.bool true, fun u hu => ?_, ?_⟩
            · obtain ⟨hu0, hu1, hu2, hu3, hu4, hu5, hu6⟩ := hu
              unfold Oper.quietAt
              go_simp
              refine (l1In_any _ _ _ _).mono ?_
              rintro e u9 ⟨he, rfl⟩
              rw [H1.out] at he
              exact ⟨he, KE _ hu0⟩
            simp only [Act.put, List.setIfInBounds_toArray, List.set_cons_zero, List.set_cons_succ]
            go_big_quiet_on
            go_big_quiet_want
            apply Exists.intro
            refine ⟨fun u hu => ?_, ?_⟩
            · obtain ⟨hu0, hu1, hu2, hu3, hu4, hu5, hu6⟩ := hu
              unfold Oper.quietAt
              go_simp
              try rfl
            simp only [Act.put, List.setIfInBounds_toArray, List.set_cons_zero, List.set_cons_succ]
            go_big_quiet_on
            go_big_quiet_want
            go_big_quiet_op
            go_big_quiet_on
            go_big_quiet_want
            apply Exists.intro
            refine ⟨fun u hu => ?_, ?_⟩
            · obtain ⟨hu0, hu1, hu2, hu3, hu4, hu5, hu6⟩ := hu
              unfold Oper.quietAt
              go_simp
              try rfl
            simp only [Act.put, List.setIfInBounds_toArray, List.set_cons_zero, List.set_cons_succ]
            go_big_quiet_on
            go_big_quiet_want
            apply Exists.intro
            refine ⟨fun u hu => ?_, ?_⟩
            · obtain ⟨hu0, hu1, hu2, hu3, hu4, hu5, hu6⟩ := hu
              unfold Oper.quietAt
              go_simp
              try rfl
            simp only [Act.put, List.setIfInBounds_toArray, List.set_cons_zero, List.set_cons_succ]
            go_big_quiet_on
            go_big_quiet_want
            refine ⟨.bool true, fun u hu => ?_, ?_⟩
            · obtain ⟨hu0, hu1, hu2, hu3, hu4, hu5, hu6⟩ := hu
              unfold Oper.quietAt
              go_simp
              refine (l1In_any _ _ _ _).mono ?_
              rintro e u9 ⟨he, rfl⟩
              rw [H2.out] at he
              exact ⟨he, KE _ hu0⟩
            simp only [Act.put, List.setIfInBounds_toArray, List.set_cons_zero, List.set_cons_succ]
            go_big_quiet_on
            go_big_quiet_want
            apply Exists.intro
            refine ⟨fun u hu => ?_, ?_⟩
            · obtain ⟨hu0, hu1, hu2, hu3, hu4, hu5, hu6⟩ := hu
              unfold Oper.quietAt
              go_simp
              try rfl
            simp only [Act.put, List.setIfInBounds_toArray, List.set_cons_zero, List.set_cons_succ]
            go_big_quiet_on
            go_big_quiet_want
            apply Exists.intro
            refine ⟨fun u hu => ?_, ?_⟩
            · obtain ⟨hu0, hu1, hu2, hu3, hu4, hu5, hu6⟩ := hu
              unfold Oper.quietAt
              go_simp
              try rfl
            simp only [Act.put, List.setIfInBounds_toArray, List.set_cons_zero, List.set_cons_succ]
            go_big_quiet_on
            go_big_quiet_want
            go_big_quiet_op
            go_big_quiet_on
            go_big_quiet_want
            apply Exists.intro
            refine ⟨fun u hu => ?_, ?_⟩
            · obtain ⟨hu0, hu1, hu2, hu3, hu4, hu5, hu6⟩ := hu
              unfold Oper.quietAt
              go_simp
              try rfl
            simp only [Act.put, List.setIfInBounds_toArray, List.set_cons_zero, List.set_cons_succ]
            go_big_quiet_on
            go_big_quiet_want
            apply Exists.intro
            refine ⟨fun u hu => ?_, ?_⟩
            · obtain ⟨hu0, hu1, hu2, hu3, hu4, hu5, hu6⟩ := hu
              unfold Oper.quietAt
              go_simp
              try rfl
            simp only [Act.put, List.setIfInBounds_toArray, List.set_cons_zero, List.set_cons_succ]
            go_big_quiet_on
            go_big_quiet_want
            apply Exists.intro
            refine ⟨fun u hu => ?_, ?_⟩
            · obtain ⟨hu0, hu1, hu2, hu3, hu4, hu5, hu6⟩ := hu
              unfold Oper.quietAt
              go_simp
              try rfl
            simp only [Act.put, List.setIfInBounds_toArray, List.set_cons_zero, List.set_cons_succ]
            go_big_quiet_on
            go_big_quiet_want
            apply Exists.intro
            refine ⟨fun u hu => ?_, ?_⟩
            · obtain ⟨hu0, hu1, hu2, hu3, hu4, hu5, hu6⟩ := hu
              unfold Oper.quietAt
              go_simp
              try rfl
            simp only [Act.put, List.setIfInBounds_toArray, List.set_cons_zero, List.set_cons_succ]
            go_big_quiet_on
            go_big_quiet_want
            apply Exists.intro
            refine ⟨fun u hu => ?_, ?_⟩
            · obtain ⟨hu0, hu1, hu2, hu3, hu4, hu5, hu6⟩ := hu
              unfold Oper.quietAt
              go_simp
              try rfl
            simp only [Act.put, List.setIfInBounds_toArray, List.set_cons_zero, List.set_cons_succ]
            go_big_quiet_on
            go_big_quiet_want
            refine ⟨.bool false, fun u hu => ?_, ?_⟩
            · obtain ⟨hu0, hu1, hu2, hu3, hu4, hu5, hu6⟩ := hu
              unfold Oper.quietAt
              go_simp
              refine (l1In_any _ _ _ _).mono ?_
              rintro e u9 ⟨he, rfl⟩
              rw [H3.out] at he
              exact ⟨he, KE _ hu0⟩
            simp only [Act.put, List.setIfInBounds_toArray, List.set_cons_zero, List.set_cons_succ]
            go_big_quiet_on
            go_big_quiet_want
            apply Exists.intro
            refine ⟨fun u hu => ?_, ?_⟩
            · obtain ⟨hu0, hu1, hu2, hu3, hu4, hu5, hu6⟩ := hu
              unfold Oper.quietAt
              go_simp
              try rfl
            simp only [Act.put, List.setIfInBounds_toArray, List.set_cons_zero, List.set_cons_succ]
            go_big_quiet_on
            go_big_quiet_want
            apply Exists.intro
            refine ⟨fun u hu => ?_, ?_⟩
            · obtain ⟨hu0, hu1, hu2, hu3, hu4, hu5, hu6⟩ := hu
              unfold Oper.quietAt
              go_simp
              try rfl
            simp only [Act.put, List.setIfInBounds_toArray, List.set_cons_zero, List.set_cons_succ]
            go_big_quiet_on
            go_big_quiet_want
            go_big_quiet_op
            go_big_quiet_on
            repeat go_big_quiet_skip
            go_big_quiet_want
            apply Exists.intro
            refine ⟨fun u hu => ?_, ?_⟩
            · obtain ⟨hu0, hu1, hu2, hu3, hu4, hu5, hu6⟩ := hu
              unfold Oper.quietAt
              go_simp
              try rfl
            simp only [Act.put, List.setIfInBounds_toArray, List.set_cons_zero, List.set_cons_succ]
            go_big_quiet_on
            go_big_quiet_want
            go_big_quiet_op
            go_big_quiet_on
            repeat go_big_quiet_skip
            go_big_quiet_want
            apply Exists.intro
            refine ⟨fun u hu => ?_, ?_⟩
            · obtain ⟨hu0, hu1, hu2, hu3, hu4, hu5, hu6⟩ := hu
              unfold Oper.quietAt
              go_simp
              try rfl
            simp only [Act.put, List.setIfInBounds_toArray, List.set_cons_zero, List.set_cons_succ]
            go_big_quiet_on
            go_big_quiet_want
            go_big_quiet_op
            go_big_quiet_on
            repeat go_big_quiet_skip
            go_big_quiet_want
            apply Exists.intro
            refine ⟨fun u hu => ?_, ?_⟩
            · obtain ⟨hu0, hu1, hu2, hu3, hu4, hu5, hu6⟩ := hu
              unfold Oper.quietAt
              go_simp
              try rfl
            simp only [Act.put, List.setIfInBounds_toArray, List.set_cons_zero, List.set_cons_succ]
            go_big_quiet_on
            go_big_quiet_want
            go_big_quiet_op
            go_big_quiet_on
            repeat go_big_quiet_skip
            go_big_quiet_want
            apply Exists.intro
            refine ⟨fun u hu => ?_, ?_⟩
            · obtain ⟨hu0, hu1, hu2, hu3, hu4, hu5, hu6⟩ := hu
              unfold Oper.quietAt
              go_simp
              try rfl
            simp only [Act.put, List.setIfInBounds_toArray, List.set_cons_zero, List.set_cons_succ]
            go_big_quiet_on
            refine wpQuiet_nil ?_
            rintro u ⟨k9, d0, d1, d2, d3, d4, d5⟩
            go_wp2_with fail
            go_ret
            exact ⟨ret_b HV.out.symm, hbw.trans (k9.mono hsw)⟩
          | true =>
            cases q4 : inr x.firsts 0 m9 with
            | false =>
              have HV := Lib.hid (HNO.out (atAt_p HG.out (tmP_3 (by first | exact q4 | (rw [HM9.out]; exact q4)))))
              have H1 := Lib.hid q1
              have H2 := Lib.hid q2
              have H3 := Lib.hid q3
              have H4 := Lib.hid q4
              clear q1 q2 q3 q4
              have KE := fun (u : World) (q : Below W2.heap.size W2 u) => show Below W2.heap.size W2 u ∧ u.cell? ⟨G, 0, none⟩ = some (.int .i64 x.id) ∧ u.cell? ⟨G, 1, none⟩ = some (.int .i64 x.club) ∧ u.cell? ⟨G, 2, none⟩ = some (.int .i64 x.wins) ∧ u.cell? ⟨G, 3, none⟩ = some (.int .i64 x.pts) ∧ u.cell? ⟨G, 4, none⟩ = some (.int .i64 x.firsts) ∧ u.cell? ⟨G, 5, none⟩ = some (.slice Aj m9 cj) from ⟨q, nwc5 q c0, nwc5 q c1, nwc5 q c2, nwc5 q c3, nwc5 q c4, nwc5 q c5⟩
              go_wp2_with fail
              rw [HW2.out]
              try (go_wp2_with fail)
              refine wp_region_quiet (C := fun u => Below W2.heap.size W2 u ∧ u.cell? ⟨G, 0, none⟩ = some (.int .i64 x.id) ∧ u.cell? ⟨G, 1, none⟩ = some (.int .i64 x.club) ∧ u.cell? ⟨G, 2, none⟩ = some (.int .i64 x.wins) ∧ u.cell? ⟨G, 3, none⟩ = some (.int .i64 x.pts) ∧ u.cell? ⟨G, 4, none⟩ = some (.int .i64 x.firsts) ∧ u.cell? ⟨G, 5, none⟩ = some (.slice Aj m9 cj)) (by kernel_rfl) (by kernel_rfl) (KE _ (Below.refl W2.heap.size W2).drew) ?_
              rw [List.toList_toArray]
              go_big_quiet_want
              apply Exists.intro
              refine ⟨fun u hu => ?_, ?_⟩
              · obtain ⟨hu0, hu1, hu2, hu3, hu4, hu5, hu6⟩ := hu
                unfold Oper.quietAt
                go_simp
                try rfl
              simp only [Act.put, List.setIfInBounds_toArray, List.set_cons_zero, List.set_cons_succ]
              go_big_quiet_on
              go_big_quiet_want
              apply Exists.intro
              refine ⟨fun u hu => ?_, ?_⟩
              · obtain ⟨hu0, hu1, hu2, hu3, hu4, hu5, hu6⟩ := hu
                unfold Oper.quietAt
                go_simp
                try rfl
              simp only [Act.put, List.setIfInBounds_toArray, List.set_cons_zero, List.set_cons_succ]
              go_big_quiet_on
              go_big_quiet_want
              refine ⟨.bool true, fun u hu => ?_, ?_⟩
              · obtain ⟨hu0, hu1, hu2, hu3, hu4, hu5, hu6⟩ := hu
                unfold Oper.quietAt
                go_simp
                refine (l1In_any _ _ _ _).mono ?_
                rintro e u9 ⟨he, rfl⟩
                rw [H1.out] at he
                exact ⟨he, KE _ hu0⟩
              simp only [Act.put, List.setIfInBounds_toArray, List.set_cons_zero, List.set_cons_succ]
              go_big_quiet_on
              go_big_quiet_want
              apply Exists.intro
              refine ⟨fun u hu => ?_, ?_⟩
              · obtain ⟨hu0, hu1, hu2, hu3, hu4, hu5, hu6⟩ := hu
                unfold Oper.quietAt
                go_simp
                try rfl
              simp only [Act.put, List.setIfInBounds_toArray, List.set_cons_zero, List.set_cons_succ]
              go_big_quiet_on
              go_big_quiet_want
              go_big_quiet_op
              go_big_quiet_on
              go_big_quiet_want
              apply Exists.intro
              refine ⟨fun u hu => ?_, ?_⟩
              · obtain ⟨hu0, hu1, hu2, hu3, hu4, hu5, hu6⟩ := hu
                unfold Oper.quietAt
                go_simp
                try rfl
              simp only [Act.put, List.setIfInBounds_toArray, List.set_cons_zero, List.set_cons_succ]
              go_big_quiet_on
              go_big_quiet_want
              apply Exists.intro
              refine ⟨fun u hu => ?_, ?_⟩
              · obtain ⟨hu0, hu1, hu2, hu3, hu4, hu5, hu6⟩ := hu
                unfold Oper.quietAt
                go_simp
                try rfl
              simp only [Act.put, List.setIfInBounds_toArray, List.set_cons_zero, List.set_cons_succ]
              go_big_quiet_on
              go_big_quiet_want
              refine ⟨.bool true, fun u hu => ?_, ?_⟩
              · obtain ⟨hu0, hu1, hu2, hu3, hu4, hu5, hu6⟩ := hu
                unfold Oper.quietAt
                go_simp
                refine (l1In_any _ _ _ _).mono ?_
                rintro e u9 ⟨he, rfl⟩
                rw [H2.out] at he
                exact ⟨he, KE _ hu0⟩
              simp only [Act.put, List.setIfInBounds_toArray, List.set_cons_zero, List.set_cons_succ]
              go_big_quiet_on
              go_big_quiet_want
              apply Exists.intro
              refine ⟨fun u hu => ?_, ?_⟩
              · obtain ⟨hu0, hu1, hu2, hu3, hu4, hu5, hu6⟩ := hu
                unfold Oper.quietAt
                go_simp
                try rfl
              simp only [Act.put, List.setIfInBounds_toArray, List.set_cons_zero, List.set_cons_succ]
              go_big_quiet_on
              go_big_quiet_want
              apply Exists.intro
              refine ⟨fun u hu => ?_, ?_⟩
              · obtain ⟨hu0, hu1, hu2, hu3, hu4, hu5, hu6⟩ := hu
                unfold Oper.quietAt
                go_simp
                try rfl
              simp only [Act.put, List.setIfInBounds_toArray, List.set_cons_zero, List.set_cons_succ]
              go_big_quiet_on
              go_big_quiet_want
              go_big_quiet_op
              go_big_quiet_on
              go_big_quiet_want
              apply Exists.intro
              refine ⟨fun u hu => ?_, ?_⟩
              · obtain ⟨hu0, hu1, hu2, hu3, hu4, hu5, hu6⟩ := hu
                unfold Oper.quietAt
                go_simp
                try rfl
              simp only [Act.put, List.setIfInBounds_toArray, List.set_cons_zero, List.set_cons_succ]
              go_big_quiet_on
              go_big_quiet_want
              apply Exists.intro
              refine ⟨fun u hu => ?_, ?_⟩
              · obtain ⟨hu0, hu1, hu2, hu3, hu4, hu5, hu6⟩ := hu
                unfold Oper.quietAt
                go_simp
                try rfl
              simp only [Act.put, List.setIfInBounds_toArray, List.set_cons_zero, List.set_cons_succ]
              go_big_quiet_on
              go_big_quiet_want
              apply Exists.intro
              refine ⟨fun u hu => ?_, ?_⟩
              · obtain ⟨hu0, hu1, hu2, hu3, hu4, hu5, hu6⟩ := hu
                unfold Oper.quietAt
                go_simp
                try rfl
              simp only [Act.put, List.setIfInBounds_toArray, List.set_cons_zero, List.set_cons_succ]
              go_big_quiet_on
              go_big_quiet_want
              apply Exists.intro
              refine ⟨fun u hu => ?_, ?_⟩
              · obtain ⟨hu0, hu1, hu2, hu3, hu4, hu5, hu6⟩ := hu
                unfold Oper.quietAt
                go_simp
                try rfl
              simp only [Act.put, List.setIfInBounds_toArray, List.set_cons_zero, List.set_cons_succ]
              go_big_quiet_on
              go_big_quiet_want
              apply Exists.intro
              refine ⟨fun u hu => ?_, ?_⟩
              · obtain ⟨hu0, hu1, hu2, hu3, hu4, hu5, hu6⟩ := hu
                unfold Oper.quietAt
                go_simp
                try rfl
              simp only [Act.put, List.setIfInBounds_toArray, List.set_cons_zero, List.set_cons_succ]
              go_big_quiet_on
              go_big_quiet_want
              refine ⟨.bool true, fun u hu => ?_, ?_⟩
              · obtain ⟨hu0, hu1, hu2, hu3, hu4, hu5, hu6⟩ := hu
                unfold Oper.quietAt
                go_simp
                refine (l1In_any _ _ _ _).mono ?_
                rintro e u9 ⟨he, rfl⟩
                rw [H3.out] at he
                exact ⟨he, KE _ hu0⟩
              simp only [Act.put, List.setIfInBounds_toArray, List.set_cons_zero, List.set_cons_succ]
              go_big_quiet_on
              go_big_quiet_want
              apply Exists.intro
              refine ⟨fun u hu => ?_, ?_⟩
              · obtain ⟨hu0, hu1, hu2, hu3, hu4, hu5, hu6⟩ := hu
                unfold Oper.quietAt
                go_simp
                try rfl
              simp only [Act.put, List.setIfInBounds_toArray, List.set_cons_zero, List.set_cons_succ]
              go_big_quiet_on
              go_big_quiet_want
              apply Exists.intro
              refine ⟨fun u hu => ?_, ?_⟩
              · obtain ⟨hu0, hu1, hu2, hu3, hu4, hu5, hu6⟩ := hu
                unfold Oper.quietAt
                go_simp
                try rfl
              simp only [Act.put, List.setIfInBounds_toArray, List.set_cons_zero, List.set_cons_succ]
              go_big_quiet_on
              go_big_quiet_want
              go_big_quiet_op
              go_big_quiet_on
              go_big_quiet_want
              apply Exists.intro
              refine ⟨fun u hu => ?_, ?_⟩
              · obtain ⟨hu0, hu1, hu2, hu3, hu4, hu5, hu6⟩ := hu
                unfold Oper.quietAt
                go_simp
                try rfl
              simp only [Act.put, List.setIfInBounds_toArray, List.set_cons_zero, List.set_cons_succ]
              go_big_quiet_on
              go_big_quiet_want
              apply Exists.intro
              refine ⟨fun u hu => ?_, ?_⟩
              · obtain ⟨hu0, hu1, hu2, hu3, hu4, hu5, hu6⟩ := hu
                unfold Oper.quietAt
                go_simp
                try rfl
              simp only [Act.put, List.setIfInBounds_toArray, List.set_cons_zero, List.set_cons_succ]
              go_big_quiet_on
              go_big_quiet_want
              apply Exists.intro
              refine ⟨fun u hu => ?_, ?_⟩
              · obtain ⟨hu0, hu1, hu2, hu3, hu4, hu5, hu6⟩ := hu
                unfold Oper.quietAt
                go_simp
                try rfl
              simp only [Act.put, List.setIfInBounds_toArray, List.set_cons_zero, List.set_cons_succ]
              go_big_quiet_on
              go_big_quiet_want
              apply Exists.intro
              refine ⟨fun u hu => ?_, ?_⟩
              · obtain ⟨hu0, hu1, hu2, hu3, hu4, hu5, hu6⟩ := hu
                unfold Oper.quietAt
                go_simp
                try rfl
              simp only [Act.put, List.setIfInBounds_toArray, List.set_cons_zero, List.set_cons_succ]
              go_big_quiet_on
              go_big_quiet_want
              apply Exists.intro
              refine ⟨fun u hu => ?_, ?_⟩
              · obtain ⟨hu0, hu1, hu2, hu3, hu4, hu5, hu6⟩ := hu
                unfold Oper.quietAt
                go_simp
                try rfl
              simp only [Act.put, List.setIfInBounds_toArray, List.set_cons_zero, List.set_cons_succ]
              go_big_quiet_on
              go_big_quiet_want
              refine ⟨.bool false, fun u hu => ?_, ?_⟩
              · obtain ⟨hu0, hu1, hu2, hu3, hu4, hu5, hu6⟩ := hu
                unfold Oper.quietAt
                go_simp
                refine (l1In_any _ _ _ _).mono ?_
                rintro e u9 ⟨he, rfl⟩
                rw [H4.out] at he
                exact ⟨he, KE _ hu0⟩
              simp only [Act.put, List.setIfInBounds_toArray, List.set_cons_zero, List.set_cons_succ]
              go_big_quiet_on
              go_big_quiet_want
              apply Exists.intro
              refine ⟨fun u hu => ?_, ?_⟩
              · obtain ⟨hu0, hu1, hu2, hu3, hu4, hu5, hu6⟩ := hu
                unfold Oper.quietAt
                go_simp
                try rfl
              simp only [Act.put, List.setIfInBounds_toArray, List.set_cons_zero, List.set_cons_succ]
              go_big_quiet_on
              go_big_quiet_want
              apply Exists.intro
              refine ⟨fun u hu => ?_, ?_⟩
              · obtain ⟨hu0, hu1, hu2, hu3, hu4, hu5, hu6⟩ := hu
                unfold Oper.quietAt
                go_simp
                try rfl
              simp only [Act.put, List.setIfInBounds_toArray, List.set_cons_zero, List.set_cons_succ]
              go_big_quiet_on
              go_big_quiet_want
              go_big_quiet_op
              go_big_quiet_on
              repeat go_big_quiet_skip
              go_big_quiet_want
              apply Exists.intro
              refine ⟨fun u hu => ?_, ?_⟩
              · obtain ⟨hu0, hu1, hu2, hu3, hu4, hu5, hu6⟩ := hu
                unfold Oper.quietAt
                go_simp
                try rfl
              simp only [Act.put, List.setIfInBounds_toArray, List.set_cons_zero, List.set_cons_succ]
              go_big_quiet_on
              go_big_quiet_want
              go_big_quiet_op
              go_big_quiet_on
              repeat go_big_quiet_skip
              go_big_quiet_want
              apply Exists.intro
              refine ⟨fun u hu => ?_, ?_⟩
              · obtain ⟨hu0, hu1, hu2, hu3, hu4, hu5, hu6⟩ := hu
                unfold Oper.quietAt
                go_simp
                try rfl
              simp only [Act.put, List.setIfInBounds_toArray, List.set_cons_zero, List.set_cons_succ]
              go_big_quiet_on
              go_big_quiet_want
              go_big_quiet_op
              go_big_quiet_on
              repeat go_big_quiet_skip
              go_big_quiet_want
              apply Exists.intro
              refine ⟨fun u hu => ?_, ?_⟩
              · obtain ⟨hu0, hu1, hu2, hu3, hu4, hu5, hu6⟩ := hu
                unfold Oper.quietAt
                go_simp
                try rfl
              simp only [Act.put, List.setIfInBounds_toArray, List.set_cons_zero, List.set_cons_succ]
              go_big_quiet_on
              refine wpQuiet_nil ?_
              rintro u ⟨k9, d0, d1, d2, d3, d4, d5⟩
              go_wp2_with fail
              go_ret
              exact ⟨ret_b HV.out.symm, hbw.trans (k9.mono hsw)⟩
            | true =>
              cases q5 : inr x.pts 0 100000 with
              | false =>
                have HV := Lib.hid (HNO.out (atAt_p HG.out (tmP_4 (by first | exact q5 | (rw [HM9.out]; exact q5)))))
                have H1 := Lib.hid q1
                have H2 := Lib.hid q2
                have H3 := Lib.hid q3
                have H4 := Lib.hid q4
                have H5 := Lib.hid q5
                clear q1 q2 q3 q4 q5
                have KE := fun (u : World) (q : Below W2.heap.size W2 u) => show Below W2.heap.size W2 u ∧ u.cell? ⟨G, 0, none⟩ = some (.int .i64 x.id) ∧ u.cell? ⟨G, 1, none⟩ = some (.int .i64 x.club) ∧ u.cell? ⟨G, 2, none⟩ = some (.int .i64 x.wins) ∧ u.cell? ⟨G, 3, none⟩ = some (.int .i64 x.pts) ∧ u.cell? ⟨G, 4, none⟩ = some (.int .i64 x.firsts) ∧ u.cell? ⟨G, 5, none⟩ = some (.slice Aj m9 cj) from ⟨q, nwc5 q c0, nwc5 q c1, nwc5 q c2, nwc5 q c3, nwc5 q c4, nwc5 q c5⟩
                go_wp2_with fail
                rw [HW2.out]
                try (go_wp2_with fail)
                refine wp_region_quiet (C := fun u => Below W2.heap.size W2 u ∧ u.cell? ⟨G, 0, none⟩ = some (.int .i64 x.id) ∧ u.cell? ⟨G, 1, none⟩ = some (.int .i64 x.club) ∧ u.cell? ⟨G, 2, none⟩ = some (.int .i64 x.wins) ∧ u.cell? ⟨G, 3, none⟩ = some (.int .i64 x.pts) ∧ u.cell? ⟨G, 4, none⟩ = some (.int .i64 x.firsts) ∧ u.cell? ⟨G, 5, none⟩ = some (.slice Aj m9 cj)) (by kernel_rfl) (by kernel_rfl) (KE _ (Below.refl W2.heap.size W2).drew) ?_
                rw [List.toList_toArray]
                go_big_quiet_want
                apply Exists.intro
                refine ⟨fun u hu => ?_, ?_⟩
                · obtain ⟨hu0, hu1, hu2, hu3, hu4, hu5, hu6⟩ := hu
                  unfold Oper.quietAt
                  go_simp
                  try rfl
                simp only [Act.put, List.setIfInBounds_toArray, List.set_cons_zero, List.set_cons_succ]
                go_big_quiet_on
                go_big_quiet_want
                apply Exists.intro
                refine ⟨fun u hu => ?_, ?_⟩
                · obtain ⟨hu0, hu1, hu2, hu3, hu4, hu5, hu6⟩ := hu
                  unfold Oper.quietAt
                  go_simp
                  try rfl
                simp only [Act.put, List.setIfInBounds_toArray, List.set_cons_zero, List.set_cons_succ]
                go_big_quiet_on
                go_big_quiet_want
                refine ⟨.bool true, fun u hu => ?_, ?_⟩
                · obtain ⟨hu0, hu1, hu2, hu3, hu4, hu5, hu6⟩ := hu
                  unfold Oper.quietAt
                  go_simp
                  refine (l1In_any _ _ _ _).mono ?_
                  rintro e u9 ⟨he, rfl⟩
                  rw [H1.out] at he
                  exact ⟨he, KE _ hu0⟩
                simp only [Act.put, List.setIfInBounds_toArray, List.set_cons_zero, List.set_cons_succ]
                go_big_quiet_on
                go_big_quiet_want
                apply Exists.intro
                refine ⟨fun u hu => ?_, ?_⟩
                · obtain ⟨hu0, hu1, hu2, hu3, hu4, hu5, hu6⟩ := hu
                  unfold Oper.quietAt
                  go_simp
                  try rfl
                simp only [Act.put, List.setIfInBounds_toArray, List.set_cons_zero, List.set_cons_succ]
                go_big_quiet_on
                go_big_quiet_want
                go_big_quiet_op
                go_big_quiet_on
                go_big_quiet_want
                apply Exists.intro
                refine ⟨fun u hu => ?_, ?_⟩
                · obtain ⟨hu0, hu1, hu2, hu3, hu4, hu5, hu6⟩ := hu
                  unfold Oper.quietAt
                  go_simp
                  try rfl
                simp only [Act.put, List.setIfInBounds_toArray, List.set_cons_zero, List.set_cons_succ]
                go_big_quiet_on
                go_big_quiet_want
                apply Exists.intro
                refine ⟨fun u hu => ?_, ?_⟩
                · obtain ⟨hu0, hu1, hu2, hu3, hu4, hu5, hu6⟩ := hu
                  unfold Oper.quietAt
                  go_simp
                  try rfl
                simp only [Act.put, List.setIfInBounds_toArray, List.set_cons_zero, List.set_cons_succ]
                go_big_quiet_on
                go_big_quiet_want
                refine ⟨.bool true, fun u hu => ?_, ?_⟩
                · obtain ⟨hu0, hu1, hu2, hu3, hu4, hu5, hu6⟩ := hu
                  unfold Oper.quietAt
                  go_simp
                  refine (l1In_any _ _ _ _).mono ?_
                  rintro e u9 ⟨he, rfl⟩
                  rw [H2.out] at he
                  exact ⟨he, KE _ hu0⟩
                simp only [Act.put, List.setIfInBounds_toArray, List.set_cons_zero, List.set_cons_succ]
                go_big_quiet_on
                go_big_quiet_want
                apply Exists.intro
                refine ⟨fun u hu => ?_, ?_⟩
                · obtain ⟨hu0, hu1, hu2, hu3, hu4, hu5, hu6⟩ := hu
                  unfold Oper.quietAt
                  go_simp
                  try rfl
                simp only [Act.put, List.setIfInBounds_toArray, List.set_cons_zero, List.set_cons_succ]
                go_big_quiet_on
                go_big_quiet_want
                apply Exists.intro
                refine ⟨fun u hu => ?_, ?_⟩
                · obtain ⟨hu0, hu1, hu2, hu3, hu4, hu5, hu6⟩ := hu
                  unfold Oper.quietAt
                  go_simp
                  try rfl
                simp only [Act.put, List.setIfInBounds_toArray, List.set_cons_zero, List.set_cons_succ]
                go_big_quiet_on
                go_big_quiet_want
                go_big_quiet_op
                go_big_quiet_on
                go_big_quiet_want
                apply Exists.intro
                refine ⟨fun u hu => ?_, ?_⟩
                · obtain ⟨hu0, hu1, hu2, hu3, hu4, hu5, hu6⟩ := hu
                  unfold Oper.quietAt
                  go_simp
                  try rfl
                simp only [Act.put, List.setIfInBounds_toArray, List.set_cons_zero, List.set_cons_succ]
                go_big_quiet_on
                go_big_quiet_want
                apply Exists.intro
                refine ⟨fun u hu => ?_, ?_⟩
                · obtain ⟨hu0, hu1, hu2, hu3, hu4, hu5, hu6⟩ := hu
                  unfold Oper.quietAt
                  go_simp
                  try rfl
                simp only [Act.put, List.setIfInBounds_toArray, List.set_cons_zero, List.set_cons_succ]
                go_big_quiet_on
                go_big_quiet_want
                apply Exists.intro
                refine ⟨fun u hu => ?_, ?_⟩
                · obtain ⟨hu0, hu1, hu2, hu3, hu4, hu5, hu6⟩ := hu
                  unfold Oper.quietAt
                  go_simp
                  try rfl
                simp only [Act.put, List.setIfInBounds_toArray, List.set_cons_zero, List.set_cons_succ]
                go_big_quiet_on
                go_big_quiet_want
                apply Exists.intro
                refine ⟨fun u hu => ?_, ?_⟩
                · obtain ⟨hu0, hu1, hu2, hu3, hu4, hu5, hu6⟩ := hu
                  unfold Oper.quietAt
                  go_simp
                  try rfl
                simp only [Act.put, List.setIfInBounds_toArray, List.set_cons_zero, List.set_cons_succ]
                go_big_quiet_on
                go_big_quiet_want
                apply Exists.intro
                refine ⟨fun u hu => ?_, ?_⟩
                · obtain ⟨hu0, hu1, hu2, hu3, hu4, hu5, hu6⟩ := hu
                  unfold Oper.quietAt
                  go_simp
                  try rfl
                simp only [Act.put, List.setIfInBounds_toArray, List.set_cons_zero, List.set_cons_succ]
                go_big_quiet_on
                go_big_quiet_want
                refine ⟨.bool true, fun u hu => ?_, ?_⟩
                · obtain ⟨hu0, hu1, hu2, hu3, hu4, hu5, hu6⟩ := hu
                  unfold Oper.quietAt
                  go_simp
                  refine (l1In_any _ _ _ _).mono ?_
                  rintro e u9 ⟨he, rfl⟩
                  rw [H3.out] at he
                  exact ⟨he, KE _ hu0⟩
                simp only [Act.put, List.setIfInBounds_toArray, List.set_cons_zero, List.set_cons_succ]
                go_big_quiet_on
                go_big_quiet_want
                apply Exists.intro
                refine ⟨fun u hu => ?_, ?_⟩
                · obtain ⟨hu0, hu1, hu2, hu3, hu4, hu5, hu6⟩ := hu
                  unfold Oper.quietAt
                  go_simp
                  try rfl
                simp only [Act.put, List.setIfInBounds_toArray, List.set_cons_zero, List.set_cons_succ]
                go_big_quiet_on
                go_big_quiet_want
                apply Exists.intro
                refine ⟨fun u hu => ?_, ?_⟩
                · obtain ⟨hu0, hu1, hu2, hu3, hu4, hu5, hu6⟩ := hu
                  unfold Oper.quietAt
                  go_simp
                  try rfl
                simp only [Act.put, List.setIfInBounds_toArray, List.set_cons_zero, List.set_cons_succ]
                go_big_quiet_on
                go_big_quiet_want
                go_big_quiet_op
                go_big_quiet_on
                go_big_quiet_want
                apply Exists.intro
                refine ⟨fun u hu => ?_, ?_⟩
                · obtain ⟨hu0, hu1, hu2, hu3, hu4, hu5, hu6⟩ := hu
                  unfold Oper.quietAt
                  go_simp
                  try rfl
                simp only [Act.put, List.setIfInBounds_toArray, List.set_cons_zero, List.set_cons_succ]
                go_big_quiet_on
                go_big_quiet_want
                apply Exists.intro
                refine ⟨fun u hu => ?_, ?_⟩
                · obtain ⟨hu0, hu1, hu2, hu3, hu4, hu5, hu6⟩ := hu
                  unfold Oper.quietAt
                  go_simp
                  try rfl
                simp only [Act.put, List.setIfInBounds_toArray, List.set_cons_zero, List.set_cons_succ]
                go_big_quiet_on
                go_big_quiet_want
                apply Exists.intro
                refine ⟨fun u hu => ?_, ?_⟩
                · obtain ⟨hu0, hu1, hu2, hu3, hu4, hu5, hu6⟩ := hu
                  unfold Oper.quietAt
                  go_simp
                  try rfl
                simp only [Act.put, List.setIfInBounds_toArray, List.set_cons_zero, List.set_cons_succ]
                go_big_quiet_on
                go_big_quiet_want
                apply Exists.intro
                refine ⟨fun u hu => ?_, ?_⟩
                · obtain ⟨hu0, hu1, hu2, hu3, hu4, hu5, hu6⟩ := hu
                  unfold Oper.quietAt
                  go_simp
                  try rfl
                simp only [Act.put, List.setIfInBounds_toArray, List.set_cons_zero, List.set_cons_succ]
                go_big_quiet_on
                go_big_quiet_want
                apply Exists.intro
                refine ⟨fun u hu => ?_, ?_⟩
                · obtain ⟨hu0, hu1, hu2, hu3, hu4, hu5, hu6⟩ := hu
                  unfold Oper.quietAt
                  go_simp
                  try rfl
                simp only [Act.put, List.setIfInBounds_toArray, List.set_cons_zero, List.set_cons_succ]
                go_big_quiet_on
                go_big_quiet_want
                refine ⟨.bool true, fun u hu => ?_, ?_⟩
                · obtain ⟨hu0, hu1, hu2, hu3, hu4, hu5, hu6⟩ := hu
                  unfold Oper.quietAt
                  go_simp
                  refine (l1In_any _ _ _ _).mono ?_
                  rintro e u9 ⟨he, rfl⟩
                  rw [H4.out] at he
                  exact ⟨he, KE _ hu0⟩
                simp only [Act.put, List.setIfInBounds_toArray, List.set_cons_zero, List.set_cons_succ]
                go_big_quiet_on
                go_big_quiet_want
                apply Exists.intro
                refine ⟨fun u hu => ?_, ?_⟩
                · obtain ⟨hu0, hu1, hu2, hu3, hu4, hu5, hu6⟩ := hu
                  unfold Oper.quietAt
                  go_simp
                  try rfl
                simp only [Act.put, List.setIfInBounds_toArray, List.set_cons_zero, List.set_cons_succ]
                go_big_quiet_on
                go_big_quiet_want
                apply Exists.intro
                refine ⟨fun u hu => ?_, ?_⟩
                · obtain ⟨hu0, hu1, hu2, hu3, hu4, hu5, hu6⟩ := hu
                  unfold Oper.quietAt
                  go_simp
                  try rfl
                simp only [Act.put, List.setIfInBounds_toArray, List.set_cons_zero, List.set_cons_succ]
                go_big_quiet_on
                go_big_quiet_want
                go_big_quiet_op
                go_big_quiet_on
                go_big_quiet_want
                apply Exists.intro
                refine ⟨fun u hu => ?_, ?_⟩
                · obtain ⟨hu0, hu1, hu2, hu3, hu4, hu5, hu6⟩ := hu
                  unfold Oper.quietAt
                  go_simp
                  try rfl
                simp only [Act.put, List.setIfInBounds_toArray, List.set_cons_zero, List.set_cons_succ]
                go_big_quiet_on
                go_big_quiet_want
                apply Exists.intro
                refine ⟨fun u hu => ?_, ?_⟩
                · obtain ⟨hu0, hu1, hu2, hu3, hu4, hu5, hu6⟩ := hu
                  unfold Oper.quietAt
                  go_simp
                  try rfl
                simp only [Act.put, List.setIfInBounds_toArray, List.set_cons_zero, List.set_cons_succ]
                go_big_quiet_on
                go_big_quiet_want
                refine ⟨.bool false, fun u hu => ?_, ?_⟩
                · obtain ⟨hu0, hu1, hu2, hu3, hu4, hu5, hu6⟩ := hu
                  unfold Oper.quietAt
                  go_simp
                  refine (l1In_any _ _ _ _).mono ?_
                  rintro e u9 ⟨he, rfl⟩
                  rw [H5.out] at he
                  exact ⟨he, KE _ hu0⟩
                simp only [Act.put, List.setIfInBounds_toArray, List.set_cons_zero, List.set_cons_succ]
                go_big_quiet_on
                go_big_quiet_want
                apply Exists.intro
                refine ⟨fun u hu => ?_, ?_⟩
                · obtain ⟨hu0, hu1, hu2, hu3, hu4, hu5, hu6⟩ := hu
                  unfold Oper.quietAt
                  go_simp
                  try rfl
                simp only [Act.put, List.setIfInBounds_toArray, List.set_cons_zero, List.set_cons_succ]
                go_big_quiet_on
                go_big_quiet_want
                apply Exists.intro
                refine ⟨fun u hu => ?_, ?_⟩
                · obtain ⟨hu0, hu1, hu2, hu3, hu4, hu5, hu6⟩ := hu
                  unfold Oper.quietAt
                  go_simp
                  try rfl
                simp only [Act.put, List.setIfInBounds_toArray, List.set_cons_zero, List.set_cons_succ]
                go_big_quiet_on
                go_big_quiet_want
                go_big_quiet_op
                go_big_quiet_on
                repeat go_big_quiet_skip
                go_big_quiet_want
                apply Exists.intro
                refine ⟨fun u hu => ?_, ?_⟩
                · obtain ⟨hu0, hu1, hu2, hu3, hu4, hu5, hu6⟩ := hu
                  unfold Oper.quietAt
                  go_simp
                  try rfl
                simp only [Act.put, List.setIfInBounds_toArray, List.set_cons_zero, List.set_cons_succ]
                go_big_quiet_on
                go_big_quiet_want
                go_big_quiet_op
                go_big_quiet_on
                repeat go_big_quiet_skip
                go_big_quiet_want
                apply Exists.intro
                refine ⟨fun u hu => ?_, ?_⟩
                · obtain ⟨hu0, hu1, hu2, hu3, hu4, hu5, hu6⟩ := hu
                  unfold Oper.quietAt
                  go_simp
                  try rfl
                simp only [Act.put, List.setIfInBounds_toArray, List.set_cons_zero, List.set_cons_succ]
                go_big_quiet_on
                refine wpQuiet_nil ?_
                rintro u ⟨k9, d0, d1, d2, d3, d4, d5⟩
                go_wp2_with fail
                go_ret
                exact ⟨ret_b HV.out.symm, hbw.trans (k9.mono hsw)⟩
              | true =>
                by_cases q6 : ¬ m9 ≤ 20
                · have d20 : decide ((20 : Int) < (m9 : Int)) = true := decide_eq_true (by omega)
                  have HV := Lib.hid (HNO.out (atAt_p HG.out (tmP_5 (by rw [HM9.out]; exact q6))))
                  have H1 := Lib.hid q1
                  have H2 := Lib.hid q2
                  have H3 := Lib.hid q3
                  have H4 := Lib.hid q4
                  have H5 := Lib.hid q5
                  clear q1 q2 q3 q4 q5
                  have KE := fun (u : World) (q : Below W2.heap.size W2 u) => show Below W2.heap.size W2 u ∧ u.cell? ⟨G, 0, none⟩ = some (.int .i64 x.id) ∧ u.cell? ⟨G, 1, none⟩ = some (.int .i64 x.club) ∧ u.cell? ⟨G, 2, none⟩ = some (.int .i64 x.wins) ∧ u.cell? ⟨G, 3, none⟩ = some (.int .i64 x.pts) ∧ u.cell? ⟨G, 4, none⟩ = some (.int .i64 x.firsts) ∧ u.cell? ⟨G, 5, none⟩ = some (.slice Aj m9 cj) from ⟨q, nwc5 q c0, nwc5 q c1, nwc5 q c2, nwc5 q c3, nwc5 q c4, nwc5 q c5⟩
                  go_wp2_with fail
                  rw [HW2.out]
                  try (go_wp2_with fail)
                  refine wp_region_quiet (C := fun u => Below W2.heap.size W2 u ∧ u.cell? ⟨G, 0, none⟩ = some (.int .i64 x.id) ∧ u.cell? ⟨G, 1, none⟩ = some (.int .i64 x.club) ∧ u.cell? ⟨G, 2, none⟩ = some (.int .i64 x.wins) ∧ u.cell? ⟨G, 3, none⟩ = some (.int .i64 x.pts) ∧ u.cell? ⟨G, 4, none⟩ = some (.int .i64 x.firsts) ∧ u.cell? ⟨G, 5, none⟩ = some (.slice Aj m9 cj)) (by kernel_rfl) (by kernel_rfl) (KE _ (Below.refl W2.heap.size W2).drew) ?_
                  rw [List.toList_toArray]
                  go_big_quiet_want
                  apply Exists.intro
                  refine ⟨fun u hu => ?_, ?_⟩
                  · obtain ⟨hu0, hu1, hu2, hu3, hu4, hu5, hu6⟩ := hu
                    unfold Oper.quietAt
                    go_simp
                    try rfl
                  simp only [Act.put, List.setIfInBounds_toArray, List.set_cons_zero, List.set_cons_succ]
                  go_big_quiet_on
                  go_big_quiet_want
                  apply Exists.intro
                  refine ⟨fun u hu => ?_, ?_⟩
                  · obtain ⟨hu0, hu1, hu2, hu3, hu4, hu5, hu6⟩ := hu
                    unfold Oper.quietAt
                    go_simp
                    try rfl
                  simp only [Act.put, List.setIfInBounds_toArray, List.set_cons_zero, List.set_cons_succ]
                  go_big_quiet_on
                  go_big_quiet_want
                  refine ⟨.bool true, fun u hu => ?_, ?_⟩
                  · obtain ⟨hu0, hu1, hu2, hu3, hu4, hu5, hu6⟩ := hu
                    unfold Oper.quietAt
                    go_simp
                    refine (l1In_any _ _ _ _).mono ?_
                    rintro e u9 ⟨he, rfl⟩
                    rw [H1.out] at he
                    exact ⟨he, KE _ hu0⟩
                  simp only [Act.put, List.setIfInBounds_toArray, List.set_cons_zero, List.set_cons_succ]
                  go_big_quiet_on
                  go_big_quiet_want
                  apply Exists.intro
                  refine ⟨fun u hu => ?_, ?_⟩
                  · obtain ⟨hu0, hu1, hu2, hu3, hu4, hu5, hu6⟩ := hu
                    unfold Oper.quietAt
                    go_simp
                    try rfl
                  simp only [Act.put, List.setIfInBounds_toArray, List.set_cons_zero, List.set_cons_succ]
                  go_big_quiet_on
                  go_big_quiet_want
                  go_big_quiet_op
                  go_big_quiet_on
                  go_big_quiet_want
                  apply Exists.intro
                  refine ⟨fun u hu => ?_, ?_⟩
                  · obtain ⟨hu0, hu1, hu2, hu3, hu4, hu5, hu6⟩ := hu
                    unfold Oper.quietAt
                    go_simp
                    try rfl
                  simp only [Act.put, List.setIfInBounds_toArray, List.set_cons_zero, List.set_cons_succ]
                  go_big_quiet_on
                  go_big_quiet_want
                  apply Exists.intro
                  refine ⟨fun u hu => ?_, ?_⟩
                  · obtain ⟨hu0, hu1, hu2, hu3, hu4, hu5, hu6⟩ := hu
                    unfold Oper.quietAt
                    go_simp
                    try rfl
                  simp only [Act.put, List.setIfInBounds_toArray, List.set_cons_zero, List.set_cons_succ]
                  go_big_quiet_on
                  go_big_quiet_want
                  refine ⟨.bool true, fun u hu => ?_, ?_⟩
                  · obtain ⟨hu0, hu1, hu2, hu3, hu4, hu5, hu6⟩ := hu
                    unfold Oper.quietAt
                    go_simp
                    refine (l1In_any _ _ _ _).mono ?_
                    rintro e u9 ⟨he, rfl⟩
                    rw [H2.out] at he
                    exact ⟨he, KE _ hu0⟩
                  simp only [Act.put, List.setIfInBounds_toArray, List.set_cons_zero, List.set_cons_succ]
                  go_big_quiet_on
                  go_big_quiet_want
                  apply Exists.intro
                  refine ⟨fun u hu => ?_, ?_⟩
                  · obtain ⟨hu0, hu1, hu2, hu3, hu4, hu5, hu6⟩ := hu
                    unfold Oper.quietAt
                    go_simp
                    try rfl
                  simp only [Act.put, List.setIfInBounds_toArray, List.set_cons_zero, List.set_cons_succ]
                  go_big_quiet_on
                  go_big_quiet_want
                  apply Exists.intro
                  refine ⟨fun u hu => ?_, ?_⟩
                  · obtain ⟨hu0, hu1, hu2, hu3, hu4, hu5, hu6⟩ := hu
                    unfold Oper.quietAt
                    go_simp
                    try rfl
                  simp only [Act.put, List.setIfInBounds_toArray, List.set_cons_zero, List.set_cons_succ]
                  go_big_quiet_on
                  go_big_quiet_want
                  go_big_quiet_op
                  go_big_quiet_on
                  go_big_quiet_want
                  apply Exists.intro
                  refine ⟨fun u hu => ?_, ?_⟩
                  · obtain ⟨hu0, hu1, hu2, hu3, hu4, hu5, hu6⟩ := hu
                    unfold Oper.quietAt
                    go_simp
                    try rfl
                  simp only [Act.put, List.setIfInBounds_toArray, List.set_cons_zero, List.set_cons_succ]
                  go_big_quiet_on
                  go_big_quiet_want
                  apply Exists.intro
                  refine ⟨fun u hu => ?_, ?_⟩
                  · obtain ⟨hu0, hu1, hu2, hu3, hu4, hu5, hu6⟩ := hu
                    unfold Oper.quietAt
                    go_simp
                    try rfl
                  simp only [Act.put, List.setIfInBounds_toArray, List.set_cons_zero, List.set_cons_succ]
                  go_big_quiet_on
                  go_big_quiet_want
                  apply Exists.intro
                  refine ⟨fun u hu => ?_, ?_⟩
                  · obtain ⟨hu0, hu1, hu2, hu3, hu4, hu5, hu6⟩ := hu
                    unfold Oper.quietAt
                    go_simp
                    try rfl
                  simp only [Act.put, List.setIfInBounds_toArray, List.set_cons_zero, List.set_cons_succ]
                  go_big_quiet_on
                  go_big_quiet_want
                  apply Exists.intro
                  refine ⟨fun u hu => ?_, ?_⟩
                  · obtain ⟨hu0, hu1, hu2, hu3, hu4, hu5, hu6⟩ := hu
                    unfold Oper.quietAt
                    go_simp
                    try rfl
                  simp only [Act.put, List.setIfInBounds_toArray, List.set_cons_zero, List.set_cons_succ]
                  go_big_quiet_on
                  go_big_quiet_want
                  apply Exists.intro
                  refine ⟨fun u hu => ?_, ?_⟩
                  · obtain ⟨hu0, hu1, hu2, hu3, hu4, hu5, hu6⟩ := hu
                    unfold Oper.quietAt
                    go_simp
                    try rfl
                  simp only [Act.put, List.setIfInBounds_toArray, List.set_cons_zero, List.set_cons_succ]
                  go_big_quiet_on
                  go_big_quiet_want
                  refine ⟨.bool true, fun u hu => ?_, ?_⟩
                  · obtain ⟨hu0, hu1, hu2, hu3, hu4, hu5, hu6⟩ := hu
                    unfold Oper.quietAt
                    go_simp
                    refine (l1In_any _ _ _ _).mono ?_
                    rintro e u9 ⟨he, rfl⟩
                    rw [H3.out] at he
                    exact ⟨he, KE _ hu0⟩
                  simp only [Act.put, List.setIfInBounds_toArray, List.set_cons_zero, List.set_cons_succ]
                  go_big_quiet_on
                  go_big_quiet_want
                  apply Exists.intro
                  refine ⟨fun u hu => ?_, ?_⟩
                  · obtain ⟨hu0, hu1, hu2, hu3, hu4, hu5, hu6⟩ := hu
                    unfold Oper.quietAt
                    go_simp
                    try rfl
                  simp only [Act.put, List.setIfInBounds_toArray, List.set_cons_zero, List.set_cons_succ]
                  go_big_quiet_on
                  go_big_quiet_want
                  apply Exists.intro
                  refine ⟨fun u hu => ?_, ?_⟩
                  · obtain ⟨hu0, hu1, hu2, hu3, hu4, hu5, hu6⟩ := hu
                    unfold Oper.quietAt
                    go_simp
                    try rfl
                  simp only [Act.put, List.setIfInBounds_toArray, List.set_cons_zero, List.set_cons_succ]
                  go_big_quiet_on
                  go_big_quiet_want
                  go_big_quiet_op
                  go_big_quiet_on
                  go_big_quiet_want
                  apply Exists.intro
                  refine ⟨fun u hu => ?_, ?_⟩
                  · obtain ⟨hu0, hu1, hu2, hu3, hu4, hu5, hu6⟩ := hu
                    unfold Oper.quietAt
                    go_simp
                    try rfl
                  simp only [Act.put, List.setIfInBounds_toArray, List.set_cons_zero, List.set_cons_succ]
                  go_big_quiet_on
                  go_big_quiet_want
                  apply Exists.intro
                  refine ⟨fun u hu => ?_, ?_⟩
                  · obtain ⟨hu0, hu1, hu2, hu3, hu4, hu5, hu6⟩ := hu
                    unfold Oper.quietAt
                    go_simp
                    try rfl
                  simp only [Act.put, List.setIfInBounds_toArray, List.set_cons_zero, List.set_cons_succ]
                  go_big_quiet_on
                  go_big_quiet_want
                  apply Exists.intro
                  refine ⟨fun u hu => ?_, ?_⟩
                  · obtain ⟨hu0, hu1, hu2, hu3, hu4, hu5, hu6⟩ := hu
                    unfold Oper.quietAt
                    go_simp
                    try rfl
                  simp only [Act.put, List.setIfInBounds_toArray, List.set_cons_zero, List.set_cons_succ]
                  go_big_quiet_on
                  go_big_quiet_want
                  apply Exists.intro
                  refine ⟨fun u hu => ?_, ?_⟩
                  · obtain ⟨hu0, hu1, hu2, hu3, hu4, hu5, hu6⟩ := hu
                    unfold Oper.quietAt
                    go_simp
                    try rfl
                  simp only [Act.put, List.setIfInBounds_toArray, List.set_cons_zero, List.set_cons_succ]
                  go_big_quiet_on
                  go_big_quiet_want
                  apply Exists.intro
                  refine ⟨fun u hu => ?_, ?_⟩
                  · obtain ⟨hu0, hu1, hu2, hu3, hu4, hu5, hu6⟩ := hu
                    unfold Oper.quietAt
                    go_simp
                    try rfl
                  simp only [Act.put, List.setIfInBounds_toArray, List.set_cons_zero, List.set_cons_succ]
                  go_big_quiet_on
                  go_big_quiet_want
                  refine ⟨.bool true, fun u hu => ?_, ?_⟩
                  · obtain ⟨hu0, hu1, hu2, hu3, hu4, hu5, hu6⟩ := hu
                    unfold Oper.quietAt
                    go_simp
                    refine (l1In_any _ _ _ _).mono ?_
                    rintro e u9 ⟨he, rfl⟩
                    rw [H4.out] at he
                    exact ⟨he, KE _ hu0⟩
                  simp only [Act.put, List.setIfInBounds_toArray, List.set_cons_zero, List.set_cons_succ]
                  go_big_quiet_on
                  go_big_quiet_want
                  apply Exists.intro
                  refine ⟨fun u hu => ?_, ?_⟩
                  · obtain ⟨hu0, hu1, hu2, hu3, hu4, hu5, hu6⟩ := hu
                    unfold Oper.quietAt
                    go_simp
                    try rfl
                  simp only [Act.put, List.setIfInBounds_toArray, List.set_cons_zero, List.set_cons_succ]
                  go_big_quiet_on
                  go_big_quiet_want
                  apply Exists.intro
                  refine ⟨fun u hu => ?_, ?_⟩
                  · obtain ⟨hu0, hu1, hu2, hu3, hu4, hu5, hu6⟩ := hu
                    unfold Oper.quietAt
                    go_simp
                    try rfl
                  simp only [Act.put, List.setIfInBounds_toArray, List.set_cons_zero, List.set_cons_succ]
                  go_big_quiet_on
                  go_big_quiet_want
                  go_big_quiet_op
                  go_big_quiet_on
                  go_big_quiet_want
                  apply Exists.intro
                  refine ⟨fun u hu => ?_, ?_⟩
                  · obtain ⟨hu0, hu1, hu2, hu3, hu4, hu5, hu6⟩ := hu
                    unfold Oper.quietAt
                    go_simp
                    try rfl
                  simp only [Act.put, List.setIfInBounds_toArray, List.set_cons_zero, List.set_cons_succ]
                  go_big_quiet_on
                  go_big_quiet_want
                  apply Exists.intro
                  refine ⟨fun u hu => ?_, ?_⟩
                  · obtain ⟨hu0, hu1, hu2, hu3, hu4, hu5, hu6⟩ := hu
                    unfold Oper.quietAt
                    go_simp
                    try rfl
                  simp only [Act.put, List.setIfInBounds_toArray, List.set_cons_zero, List.set_cons_succ]
                  go_big_quiet_on
                  go_big_quiet_want
                  refine ⟨.bool true, fun u hu => ?_, ?_⟩
                  · obtain ⟨hu0, hu1, hu2, hu3, hu4, hu5, hu6⟩ := hu
                    unfold Oper.quietAt
                    go_simp
                    refine (l1In_any _ _ _ _).mono ?_
                    rintro e u9 ⟨he, rfl⟩
                    rw [H5.out] at he
                    exact ⟨he, KE _ hu0⟩
                  simp only [Act.put, List.setIfInBounds_toArray, List.set_cons_zero, List.set_cons_succ]
                  go_big_quiet_on
                  go_big_quiet_want
                  apply Exists.intro
                  refine ⟨fun u hu => ?_, ?_⟩
                  · obtain ⟨hu0, hu1, hu2, hu3, hu4, hu5, hu6⟩ := hu
                    unfold Oper.quietAt
                    go_simp
                    try rfl
                  simp only [Act.put, List.setIfInBounds_toArray, List.set_cons_zero, List.set_cons_succ]
                  go_big_quiet_on
                  go_big_quiet_want
                  apply Exists.intro
                  refine ⟨fun u hu => ?_, ?_⟩
                  · obtain ⟨hu0, hu1, hu2, hu3, hu4, hu5, hu6⟩ := hu
                    unfold Oper.quietAt
                    go_simp
                    try rfl
                  simp only [Act.put, List.setIfInBounds_toArray, List.set_cons_zero, List.set_cons_succ]
                  go_big_quiet_on
                  go_big_quiet_want
                  go_big_quiet_op
                  go_big_quiet_on
                  go_big_quiet_want
                  apply Exists.intro
                  refine ⟨fun u hu => ?_, ?_⟩
                  · obtain ⟨hu0, hu1, hu2, hu3, hu4, hu5, hu6⟩ := hu
                    unfold Oper.quietAt
                    go_simp
                    try rfl
                  simp only [Act.put, List.setIfInBounds_toArray, List.set_cons_zero, List.set_cons_succ]
                  go_big_quiet_on
                  go_big_quiet_want
                  apply Exists.intro
                  refine ⟨fun u hu => ?_, ?_⟩
                  · obtain ⟨hu0, hu1, hu2, hu3, hu4, hu5, hu6⟩ := hu
                    unfold Oper.quietAt
                    go_simp
                    try rfl
                  simp only [Act.put, List.setIfInBounds_toArray, List.set_cons_zero, List.set_cons_succ]
                  go_big_quiet_on
                  go_big_quiet_want
                  apply Exists.intro
                  refine ⟨fun u hu => ?_, ?_⟩
                  · obtain ⟨hu0, hu1, hu2, hu3, hu4, hu5, hu6⟩ := hu
                    unfold Oper.quietAt
                    go_simp
                    try rfl
                  simp only [Act.put, List.setIfInBounds_toArray, List.set_cons_zero, List.set_cons_succ]
                  go_big_quiet_on
                  go_big_quiet_want
                  apply Exists.intro
                  refine ⟨fun u hu => ?_, ?_⟩
                  · obtain ⟨hu0, hu1, hu2, hu3, hu4, hu5, hu6⟩ := hu
                    unfold Oper.quietAt
                    go_simp
                    try rfl
                  simp only [Act.put, List.setIfInBounds_toArray, List.set_cons_zero, List.set_cons_succ]
                  go_big_quiet_on
                  go_big_quiet_want
                  apply Exists.intro
                  refine ⟨fun u hu => ?_, ?_⟩
                  · obtain ⟨hu0, hu1, hu2, hu3, hu4, hu5, hu6⟩ := hu
                    unfold Oper.quietAt
                    go_simp
                    try rfl
                  simp only [Act.put, List.setIfInBounds_toArray, List.set_cons_zero, List.set_cons_succ]
                  go_big_quiet_on
                  go_big_quiet_want
                  go_big_quiet_op
                  go_big_quiet_on
                  repeat go_big_quiet_skip
                  go_big_quiet_want
                  apply Exists.intro
                  refine ⟨fun u hu => ?_, ?_⟩
                  · obtain ⟨hu0, hu1, hu2, hu3, hu4, hu5, hu6⟩ := hu
                    unfold Oper.quietAt
                    go_simp
                    try rfl
                  simp only [Act.put, List.setIfInBounds_toArray, List.set_cons_zero, List.set_cons_succ]
                  go_big_quiet_on
                  refine wpQuiet_nil ?_
                  rintro u ⟨k9, d0, d1, d2, d3, d4, d5⟩
                  go_wp2_with fail
                  go_ret
                  exact ⟨ret_b HV.out.symm, hbw.trans (k9.mono hsw)⟩
                have HTP := Lib.hid (tmP_6 q2 (by rw [HM9.out]; exact q3) (by rw [HM9.out]; exact q4) q5 (by rw [HM9.out]; omega))
                have d20 : decide ((20 : Int) < (m9 : Int)) = false := decide_eq_false (by omega)
                by_cases hk0 : k = 0
                · subst hk0
                  have HOK := Lib.hid (asc_1 HD.out q1)
                  have H1 := Lib.hid q1
                  have H2 := Lib.hid q2
                  have H3 := Lib.hid q3
                  have H4 := Lib.hid q4
                  have H5 := Lib.hid q5
                  clear q1 q2 q3 q4 q5 q6
                  have KE := fun (u : World) (q : Below W2.heap.size W2 u) => show Below W2.heap.size W2 u ∧ u.cell? ⟨G, 0, none⟩ = some (.int .i64 x.id) ∧ u.cell? ⟨G, 1, none⟩ = some (.int .i64 x.club) ∧ u.cell? ⟨G, 2, none⟩ = some (.int .i64 x.wins) ∧ u.cell? ⟨G, 3, none⟩ = some (.int .i64 x.pts) ∧ u.cell? ⟨G, 4, none⟩ = some (.int .i64 x.firsts) ∧ u.cell? ⟨G, 5, none⟩ = some (.slice Aj m9 cj) from ⟨q, nwc5 q c0, nwc5 q c1, nwc5 q c2, nwc5 q c3, nwc5 q c4, nwc5 q c5⟩
                  go_wp2_with fail
                  rw [HW2.out]
                  try (go_wp2_with fail)
                  refine wp_region_quiet (C := fun u => Below W2.heap.size W2 u ∧ u.cell? ⟨G, 0, none⟩ = some (.int .i64 x.id) ∧ u.cell? ⟨G, 1, none⟩ = some (.int .i64 x.club) ∧ u.cell? ⟨G, 2, none⟩ = some (.int .i64 x.wins) ∧ u.cell? ⟨G, 3, none⟩ = some (.int .i64 x.pts) ∧ u.cell? ⟨G, 4, none⟩ = some (.int .i64 x.firsts) ∧ u.cell? ⟨G, 5, none⟩ = some (.slice Aj m9 cj)) (by kernel_rfl) (by kernel_rfl) (KE _ (Below.refl W2.heap.size W2).drew) ?_
                  rw [List.toList_toArray]
                  go_big_quiet_want
                  apply Exists.intro
                  refine ⟨fun u hu => ?_, ?_⟩
                  · obtain ⟨hu0, hu1, hu2, hu3, hu4, hu5, hu6⟩ := hu
                    unfold Oper.quietAt
                    go_simp
                    try rfl
                  simp only [Act.put, List.setIfInBounds_toArray, List.set_cons_zero, List.set_cons_succ]
                  go_big_quiet_on
                  go_big_quiet_want
                  apply Exists.intro
                  refine ⟨fun u hu => ?_, ?_⟩
                  · obtain ⟨hu0, hu1, hu2, hu3, hu4, hu5, hu6⟩ := hu
                    unfold Oper.quietAt
                    go_simp
                    try rfl
                  simp only [Act.put, List.setIfInBounds_toArray, List.set_cons_zero, List.set_cons_succ]
                  go_big_quiet_on
                  go_big_quiet_want
                  refine ⟨.bool true, fun u hu => ?_, ?_⟩
                  · obtain ⟨hu0, hu1, hu2, hu3, hu4, hu5, hu6⟩ := hu
                    unfold Oper.quietAt
                    go_simp
                    refine (l1In_any _ _ _ _).mono ?_
                    rintro e u9 ⟨he, rfl⟩
                    rw [H1.out] at he
                    exact ⟨he, KE _ hu0⟩
                  simp only [Act.put, List.setIfInBounds_toArray, List.set_cons_zero, List.set_cons_succ]
                  go_big_quiet_on
                  go_big_quiet_want
                  apply Exists.intro
                  refine ⟨fun u hu => ?_, ?_⟩
                  · obtain ⟨hu0, hu1, hu2, hu3, hu4, hu5, hu6⟩ := hu
                    unfold Oper.quietAt
                    go_simp
                    try rfl
                  simp only [Act.put, List.setIfInBounds_toArray, List.set_cons_zero, List.set_cons_succ]
                  go_big_quiet_on
                  go_big_quiet_want
                  go_big_quiet_op
                  go_big_quiet_on
                  go_big_quiet_want
                  apply Exists.intro
                  refine ⟨fun u hu => ?_, ?_⟩
                  · obtain ⟨hu0, hu1, hu2, hu3, hu4, hu5, hu6⟩ := hu
                    unfold Oper.quietAt
                    go_simp
                    try rfl
                  simp only [Act.put, List.setIfInBounds_toArray, List.set_cons_zero, List.set_cons_succ]
                  go_big_quiet_on
                  go_big_quiet_want
                  apply Exists.intro
                  refine ⟨fun u hu => ?_, ?_⟩
                  · obtain ⟨hu0, hu1, hu2, hu3, hu4, hu5, hu6⟩ := hu
                    unfold Oper.quietAt
                    go_simp
                    try rfl
                  simp only [Act.put, List.setIfInBounds_toArray, List.set_cons_zero, List.set_cons_succ]
                  go_big_quiet_on
                  go_big_quiet_want
                  refine ⟨.bool true, fun u hu => ?_, ?_⟩
                  · obtain ⟨hu0, hu1, hu2, hu3, hu4, hu5, hu6⟩ := hu
                    unfold Oper.quietAt
                    go_simp
                    refine (l1In_any _ _ _ _).mono ?_
                    rintro e u9 ⟨he, rfl⟩
                    rw [H2.out] at he
                    exact ⟨he, KE _ hu0⟩
                  simp only [Act.put, List.setIfInBounds_toArray, List.set_cons_zero, List.set_cons_succ]
                  go_big_quiet_on
                  go_big_quiet_want
                  apply Exists.intro
                  refine ⟨fun u hu => ?_, ?_⟩
                  · obtain ⟨hu0, hu1, hu2, hu3, hu4, hu5, hu6⟩ := hu
                    unfold Oper.quietAt
                    go_simp
                    try rfl
                  simp only [Act.put, List.setIfInBounds_toArray, List.set_cons_zero, List.set_cons_succ]
                  go_big_quiet_on
                  go_big_quiet_want
                  apply Exists.intro
                  refine ⟨fun u hu => ?_, ?_⟩
                  · obtain ⟨hu0, hu1, hu2, hu3, hu4, hu5, hu6⟩ := hu
                    unfold Oper.quietAt
                    go_simp
                    try rfl
                  simp only [Act.put, List.setIfInBounds_toArray, List.set_cons_zero, List.set_cons_succ]
                  go_big_quiet_on
                  go_big_quiet_want
                  go_big_quiet_op
                  go_big_quiet_on
                  go_big_quiet_want
                  apply Exists.intro
                  refine ⟨fun u hu => ?_, ?_⟩
                  · obtain ⟨hu0, hu1, hu2, hu3, hu4, hu5, hu6⟩ := hu
                    unfold Oper.quietAt
                    go_simp
                    try rfl
                  simp only [Act.put, List.setIfInBounds_toArray, List.set_cons_zero, List.set_cons_succ]
                  go_big_quiet_on
                  go_big_quiet_want
                  apply Exists.intro
                  refine ⟨fun u hu => ?_, ?_⟩
                  · obtain ⟨hu0, hu1, hu2, hu3, hu4, hu5, hu6⟩ := hu
                    unfold Oper.quietAt
                    go_simp
                    try rfl
                  simp only [Act.put, List.setIfInBounds_toArray, List.set_cons_zero, List.set_cons_succ]
                  go_big_quiet_on
                  go_big_quiet_want
                  apply Exists.intro
                  refine ⟨fun u hu => ?_, ?_⟩
                  · obtain ⟨hu0, hu1, hu2, hu3, hu4, hu5, hu6⟩ := hu
                    unfold Oper.quietAt
                    go_simp
                    try rfl
                  simp only [Act.put, List.setIfInBounds_toArray, List.set_cons_zero, List.set_cons_succ]
                  go_big_quiet_on
                  go_big_quiet_want
                  apply Exists.intro
                  refine ⟨fun u hu => ?_, ?_⟩
                  · obtain ⟨hu0, hu1, hu2, hu3, hu4, hu5, hu6⟩ := hu
                    unfold Oper.quietAt
                    go_simp
                    try rfl
                  simp only [Act.put, List.setIfInBounds_toArray, List.set_cons_zero, List.set_cons_succ]
                  go_big_quiet_on
                  go_big_quiet_want
                  apply Exists.intro
                  refine ⟨fun u hu => ?_, ?_⟩
                  · obtain ⟨hu0, hu1, hu2, hu3, hu4, hu5, hu6⟩ := hu
                    unfold Oper.quietAt
                    go_simp
                    try rfl
                  simp only [Act.put, List.setIfInBounds_toArray, List.set_cons_zero, List.set_cons_succ]
                  go_big_quiet_on
                  go_big_quiet_want
                  refine ⟨.bool true, fun u hu => ?_, ?_⟩
                  · obtain ⟨hu0, hu1, hu2, hu3, hu4, hu5, hu6⟩ := hu
                    unfold Oper.quietAt
                    go_simp
                    refine (l1In_any _ _ _ _).mono ?_
                    rintro e u9 ⟨he, rfl⟩
                    rw [H3.out] at he
                    exact ⟨he, KE _ hu0⟩
                  simp only [Act.put, List.setIfInBounds_toArray, List.set_cons_zero, List.set_cons_succ]
                  go_big_quiet_on
                  go_big_quiet_want
                  apply Exists.intro
                  refine ⟨fun u hu => ?_, ?_⟩
                  · obtain ⟨hu0, hu1, hu2, hu3, hu4, hu5, hu6⟩ := hu
                    unfold Oper.quietAt
                    go_simp
                    try rfl
                  simp only [Act.put, List.setIfInBounds_toArray, List.set_cons_zero, List.set_cons_succ]
                  go_big_quiet_on
                  go_big_quiet_want
                  apply Exists.intro
                  refine ⟨fun u hu => ?_, ?_⟩
                  · obtain ⟨hu0, hu1, hu2, hu3, hu4, hu5, hu6⟩ := hu
                    unfold Oper.quietAt
                    go_simp
                    try rfl
                  simp only [Act.put, List.setIfInBounds_toArray, List.set_cons_zero, List.set_cons_succ]
                  go_big_quiet_on
                  go_big_quiet_want
                  go_big_quiet_op
                  go_big_quiet_on
                  go_big_quiet_want
                  apply Exists.intro
                  refine ⟨fun u hu => ?_, ?_⟩
                  · obtain ⟨hu0, hu1, hu2, hu3, hu4, hu5, hu6⟩ := hu
                    unfold Oper.quietAt
                    go_simp
                    try rfl
                  simp only [Act.put, List.setIfInBounds_toArray, List.set_cons_zero, List.set_cons_succ]
                  go_big_quiet_on
                  go_big_quiet_want
                  apply Exists.intro
                  refine ⟨fun u hu => ?_, ?_⟩
                  · obtain ⟨hu0, hu1, hu2, hu3, hu4, hu5, hu6⟩ := hu
                    unfold Oper.quietAt
                    go_simp
                    try rfl
                  simp only [Act.put, List.setIfInBounds_toArray, List.set_cons_zero, List.set_cons_succ]
                  go_big_quiet_on
                  go_big_quiet_want
                  apply Exists.intro
                  refine ⟨fun u hu => ?_, ?_⟩
                  · obtain ⟨hu0, hu1, hu2, hu3, hu4, hu5, hu6⟩ := hu
                    unfold Oper.quietAt
                    go_simp
                    try rfl
                  simp only [Act.put, List.setIfInBounds_toArray, List.set_cons_zero, List.set_cons_succ]
                  go_big_quiet_on
                  go_big_quiet_want
                  apply Exists.intro
                  refine ⟨fun u hu => ?_, ?_⟩
                  · obtain ⟨hu0, hu1, hu2, hu3, hu4, hu5, hu6⟩ := hu
                    unfold Oper.quietAt
                    go_simp
                    try rfl
                  simp only [Act.put, List.setIfInBounds_toArray, List.set_cons_zero, List.set_cons_succ]
                  go_big_quiet_on
                  go_big_quiet_want
                  apply Exists.intro
                  refine ⟨fun u hu => ?_, ?_⟩
                  · obtain ⟨hu0, hu1, hu2, hu3, hu4, hu5, hu6⟩ := hu
                    unfold Oper.quietAt
                    go_simp
                    try rfl
                  simp only [Act.put, List.setIfInBounds_toArray, List.set_cons_zero, List.set_cons_succ]
                  go_big_quiet_on
                  go_big_quiet_want
                  refine ⟨.bool true, fun u hu => ?_, ?_⟩
                  · obtain ⟨hu0, hu1, hu2, hu3, hu4, hu5, hu6⟩ := hu
                    unfold Oper.quietAt
                    go_simp
                    refine (l1In_any _ _ _ _).mono ?_
                    rintro e u9 ⟨he, rfl⟩
                    rw [H4.out] at he
                    exact ⟨he, KE _ hu0⟩
                  simp only [Act.put, List.setIfInBounds_toArray, List.set_cons_zero, List.set_cons_succ]
                  go_big_quiet_on
                  go_big_quiet_want
                  apply Exists.intro
                  refine ⟨fun u hu => ?_, ?_⟩
                  · obtain ⟨hu0, hu1, hu2, hu3, hu4, hu5, hu6⟩ := hu
                    unfold Oper.quietAt
                    go_simp
                    try rfl
                  simp only [Act.put, List.setIfInBounds_toArray, List.set_cons_zero, List.set_cons_succ]
                  go_big_quiet_on
                  go_big_quiet_want
                  apply Exists.intro
                  refine ⟨fun u hu => ?_, ?_⟩
                  · obtain ⟨hu0, hu1, hu2, hu3, hu4, hu5, hu6⟩ := hu
                    unfold Oper.quietAt
                    go_simp
                    try rfl
                  simp only [Act.put, List.setIfInBounds_toArray, List.set_cons_zero, List.set_cons_succ]
                  go_big_quiet_on
                  go_big_quiet_want
                  go_big_quiet_op
                  go_big_quiet_on
                  go_big_quiet_want
                  apply Exists.intro
                  refine ⟨fun u hu => ?_, ?_⟩
                  · obtain ⟨hu0, hu1, hu2, hu3, hu4, hu5, hu6⟩ := hu
                    unfold Oper.quietAt
                    go_simp
                    try rfl
                  simp only [Act.put, List.setIfInBounds_toArray, List.set_cons_zero, List.set_cons_succ]
                  go_big_quiet_on
                  go_big_quiet_want
                  apply Exists.intro
                  refine ⟨fun u hu => ?_, ?_⟩
                  · obtain ⟨hu0, hu1, hu2, hu3, hu4, hu5, hu6⟩ := hu
                    unfold Oper.quietAt
                    go_simp
                    try rfl
                  simp only [Act.put, List.setIfInBounds_toArray, List.set_cons_zero, List.set_cons_succ]
                  go_big_quiet_on
                  go_big_quiet_want
                  refine ⟨.bool true, fun u hu => ?_, ?_⟩
                  · obtain ⟨hu0, hu1, hu2, hu3, hu4, hu5, hu6⟩ := hu
                    unfold Oper.quietAt
                    go_simp
                    refine (l1In_any _ _ _ _).mono ?_
                    rintro e u9 ⟨he, rfl⟩
                    rw [H5.out] at he
                    exact ⟨he, KE _ hu0⟩
                  simp only [Act.put, List.setIfInBounds_toArray, List.set_cons_zero, List.set_cons_succ]
                  go_big_quiet_on
                  go_big_quiet_want
                  apply Exists.intro
                  refine ⟨fun u hu => ?_, ?_⟩
                  · obtain ⟨hu0, hu1, hu2, hu3, hu4, hu5, hu6⟩ := hu
                    unfold Oper.quietAt
                    go_simp
                    try rfl
                  simp only [Act.put, List.setIfInBounds_toArray, List.set_cons_zero, List.set_cons_succ]
                  go_big_quiet_on
                  go_big_quiet_want
                  apply Exists.intro
                  refine ⟨fun u hu => ?_, ?_⟩
                  · obtain ⟨hu0, hu1, hu2, hu3, hu4, hu5, hu6⟩ := hu
                    unfold Oper.quietAt
                    go_simp
                    try rfl
                  simp only [Act.put, List.setIfInBounds_toArray, List.set_cons_zero, List.set_cons_succ]
                  go_big_quiet_on
                  go_big_quiet_want
                  go_big_quiet_op
                  go_big_quiet_on
                  go_big_quiet_want
                  apply Exists.intro
                  refine ⟨fun u hu => ?_, ?_⟩
                  · obtain ⟨hu0, hu1, hu2, hu3, hu4, hu5, hu6⟩ := hu
                    unfold Oper.quietAt
                    go_simp
                    try rfl
                  simp only [Act.put, List.setIfInBounds_toArray, List.set_cons_zero, List.set_cons_succ]
                  go_big_quiet_on
                  go_big_quiet_want
                  apply Exists.intro
                  refine ⟨fun u hu => ?_, ?_⟩
                  · obtain ⟨hu0, hu1, hu2, hu3, hu4, hu5, hu6⟩ := hu
                    unfold Oper.quietAt
                    go_simp
                    try rfl
                  simp only [Act.put, List.setIfInBounds_toArray, List.set_cons_zero, List.set_cons_succ]
                  go_big_quiet_on
                  go_big_quiet_want
                  apply Exists.intro
                  refine ⟨fun u hu => ?_, ?_⟩
                  · obtain ⟨hu0, hu1, hu2, hu3, hu4, hu5, hu6⟩ := hu
                    unfold Oper.quietAt
                    go_simp
                    try rfl
                  simp only [Act.put, List.setIfInBounds_toArray, List.set_cons_zero, List.set_cons_succ]
                  go_big_quiet_on
                  go_big_quiet_want
                  apply Exists.intro
                  refine ⟨fun u hu => ?_, ?_⟩
                  · obtain ⟨hu0, hu1, hu2, hu3, hu4, hu5, hu6⟩ := hu
                    unfold Oper.quietAt
                    go_simp
                    try rfl
                  simp only [Act.put, List.setIfInBounds_toArray, List.set_cons_zero, List.set_cons_succ]
                  go_big_quiet_on
                  go_big_quiet_want
                  apply Exists.intro
                  refine ⟨fun u hu => ?_, ?_⟩
                  · obtain ⟨hu0, hu1, hu2, hu3, hu4, hu5, hu6⟩ := hu
                    unfold Oper.quietAt
                    go_simp
                    try rfl
                  simp only [Act.put, List.setIfInBounds_toArray, List.set_cons_zero, List.set_cons_succ]
                  go_big_quiet_on
                  go_big_quiet_want
                  go_big_quiet_op
                  go_big_quiet_on
                  go_big_quiet_want
                  go_big_quiet_op
                  go_big_quiet_on
                  go_big_quiet_want
                  apply Exists.intro
                  refine ⟨fun u hu => ?_, ?_⟩
                  · obtain ⟨hu0, hu1, hu2, hu3, hu4, hu5, hu6⟩ := hu
                    unfold Oper.quietAt
                    go_simp
                    try rfl
                  simp only [Act.put, List.setIfInBounds_toArray, List.set_cons_zero, List.set_cons_succ]
                  go_big_quiet_on
                  go_big_quiet_want
                  go_big_quiet_op
                  go_big_quiet_on
                  repeat go_big_quiet_skip
                  go_big_quiet_want
                  apply Exists.intro
                  refine ⟨fun u hu => ?_, ?_⟩
                  · obtain ⟨hu0, hu1, hu2, hu3, hu4, hu5, hu6⟩ := hu
                    unfold Oper.quietAt
                    go_simp
                    try rfl
                  simp only [Act.put, List.setIfInBounds_toArray, List.set_cons_zero, List.set_cons_succ]
                  go_big_quiet_on
                  go_big_quiet_want
                  apply Exists.intro
                  refine ⟨fun u hu => ?_, ?_⟩
                  · obtain ⟨hu0, hu1, hu2, hu3, hu4, hu5, hu6⟩ := hu
                    unfold Oper.quietAt
                    go_simp
                    try rfl
                  simp only [Act.put, List.setIfInBounds_toArray, List.set_cons_zero, List.set_cons_succ]
                  go_big_quiet_on
                  refine wpQuiet_nil ?_
                  rintro u ⟨k9, d0, d1, d2, d3, d4, d5⟩
                  have hbu := hbw.trans (k9.mono hsw)
                  have hszu := hbu.size
                  have hru := (hrw.below k9).more k9.size
                  have hrju := (hrjw.below k9).more k9.size
                  clear KE
                  go_wp2_with fail
                  go_loopw [5] (fun i wi => ∃ m : Nat, m ≤ m9 ∧ i = .int .i64 m ∧ Hid ((x.met.take m).all (muAt X 0) = true) ∧ Below u.heap.size u wi) (fun i _ => m9 - (intOf i).toNat)
                  case atStart => exact ⟨0, Nat.zero_le _, rfl, Lib.hid rfl, Below.refl _ _⟩
                  case round =>
                    obtain ⟨m, hm, rfl, hma, hb3⟩ := hrel
                    have e0 := nwc5 hb3 d0
                    have e5 := nwc5 hb3 d5
                    have hri := (hru.below hb3).more hb3.size
                    have hrji := (hrju.below hb3).more hb3.size
                    have hb4 := hbu.trans (hb3.mono hszu)
                    have hsz4 := hb4.size
                    by_cases hlm : m < m9
                    · have hmz : m < x.met.length := by rw [HM9.out]; exact hlm
                      obtain ⟨aj, rfl, haj, f0⟩ := ivs_at hrji hmz
                      obtain ⟨q, hq⟩ : ∃ q, aj.add m = q := ⟨_, rfl⟩
                      rw [hq] at f0
                      have HSN := Lib.hid (fun h => mu_snoc hma.out hmz h)
                      have hzm : x.met[m] ∈ x.met := List.getElem_mem hmz
                      have HMN := Lib.hid (fun h => HNO.out (atAt_m HG.out hzm h))
                      obtain ⟨z, hz⟩ : ∃ z, z = x.met[m] := ⟨_, rfl⟩
                      rw [← hz] at f0 HSN HMN
                      clear hz hzm
                      have m0 : (0 : Int) ≤ (m : Int) := by omega
                      have m1 : (m : Int) < (m9 : Int) := by omega
                      cases hf : fndO X z with
                      | none =>
                        have HF := Lib.hid (fndI_none hf)
                        have HV := Lib.hid (HMN.out (mu_none hf))
                        clear hf
                        go_wp2_with fail
                        refine (specFindTeam_any hl (by omega) hri).mono ?_
                        rintro e u1 ⟨rfl, rfl⟩
                        rw [HF.out]
                        have KE := fun (v : World) (q : Below wr.heap.size wr v) => show Below wr.heap.size wr v ∧ v.cell? ⟨G, 0, none⟩ = some (.int .i64 x.id) from ⟨q, nwc5 q e0⟩
                        go_wp2_with fail
                        refine wp_region_quiet (C := fun v => Below wr.heap.size wr v ∧ v.cell? ⟨G, 0, none⟩ = some (.int .i64 x.id)) (by kernel_rfl) (by kernel_rfl) (KE _ (Below.refl wr.heap.size wr).drew) ?_
                        rw [List.toList_toArray]
                        go_big_quiet_want
                        go_big_quiet_op
                        go_big_quiet_on
                        go_big_quiet_want
                        apply Exists.intro
                        refine ⟨fun u hu => ?_, ?_⟩
                        · obtain ⟨hu0, hu1⟩ := hu
                          unfold Oper.quietAt
                          go_simp
                          try rfl
                        simp only [Act.put, List.setIfInBounds_toArray, List.set_cons_zero, List.set_cons_succ]
                        go_big_quiet_on
                        go_big_quiet_want
                        go_big_quiet_op
                        go_big_quiet_on
                        repeat go_big_quiet_skip
                        go_big_quiet_want
                        apply Exists.intro
                        refine ⟨fun u hu => ?_, ?_⟩
                        · obtain ⟨hu0, hu1⟩ := hu
                          unfold Oper.quietAt
                          go_simp
                          try rfl
                        simp only [Act.put, List.setIfInBounds_toArray, List.set_cons_zero, List.set_cons_succ]
                        go_big_quiet_on
                        go_big_quiet_want
                        go_big_quiet_op
                        go_big_quiet_on
                        repeat go_big_quiet_skip
                        go_big_quiet_want
                        apply Exists.intro
                        refine ⟨fun u hu => ?_, ?_⟩
                        · obtain ⟨hu0, hu1⟩ := hu
                          unfold Oper.quietAt
                          go_simp
                          try rfl
                        simp only [Act.put, List.setIfInBounds_toArray, List.set_cons_zero, List.set_cons_succ]
                        go_big_quiet_on
                        refine wpQuiet_nil ?_
                        rintro u3 ⟨k8, _⟩
                        go_wp2_with fail
                        go_ret
                        exact ⟨ret_b HV.out.symm, hb4.trans (k8.mono hsz4)⟩
                      | some v =>
                        have HF := Lib.hid (fndI_some hf)
                        have HF0 := Lib.hid hf
                        obtain ⟨j, hvj, hj, hje, _⟩ := fndO_some hf
                        subst hvj
                        have hjn : j < n := by rw [← hl.out]; exact hj
                        have j0 : (0 : Int) ≤ (j : Int) := by omega
                        have j1 : (j : Int) < (n : Int) := by omega
                        have jn : decide ((j : Int) < 0) = false := decide_eq_false (by omega)
                        clear hf hje
                        by_cases hjk : j = 0
                        · subst hjk
                          have HV := Lib.hid (HMN.out (mu_same HF0.out))
                          go_wp2_with fail
                          refine (specFindTeam_any hl (by omega) hri).mono ?_
                          rintro e u1 ⟨rfl, rfl⟩
                          rw [HF.out]
                          have KE := fun (v : World) (q : Below wr.heap.size wr v) => show Below wr.heap.size wr v ∧ v.cell? ⟨G, 0, none⟩ = some (.int .i64 x.id) from ⟨q, nwc5 q e0⟩
                          go_wp2_with fail
                          refine wp_region_quiet (C := fun v => Below wr.heap.size wr v ∧ v.cell? ⟨G, 0, none⟩ = some (.int .i64 x.id)) (by kernel_rfl) (by kernel_rfl) (KE _ (Below.refl wr.heap.size wr).drew) ?_
                          rw [List.toList_toArray]
                          go_big_quiet_want
                          go_big_quiet_op
                          go_big_quiet_on
                          go_big_quiet_want
                          apply Exists.intro
                          refine ⟨fun u hu => ?_, ?_⟩
                          · obtain ⟨hu0, hu1⟩ := hu
                            unfold Oper.quietAt
                            go_simp
                            try rfl
                          simp only [Act.put, List.setIfInBounds_toArray, List.set_cons_zero, List.set_cons_succ]
                          go_big_quiet_on
                          go_big_quiet_want
                          go_big_quiet_op
                          go_big_quiet_on
                          go_big_quiet_want
                          go_big_quiet_op
                          go_big_quiet_on
                          go_big_quiet_want
                          go_big_quiet_op
                          go_big_quiet_on
                          go_big_quiet_want
                          apply Exists.intro
                          refine ⟨fun u hu => ?_, ?_⟩
                          · obtain ⟨hu0, hu1⟩ := hu
                            unfold Oper.quietAt
                            go_simp
                            try rfl
                          simp only [Act.put, List.setIfInBounds_toArray, List.set_cons_zero, List.set_cons_succ]
                          go_big_quiet_on
                          go_big_quiet_want
                          apply Exists.intro
                          refine ⟨fun u hu => ?_, ?_⟩
                          · obtain ⟨hu0, hu1⟩ := hu
                            unfold Oper.quietAt
                            go_simp
                            try rfl
                          simp only [Act.put, List.setIfInBounds_toArray, List.set_cons_zero, List.set_cons_succ]
                          go_big_quiet_on
                          go_big_quiet_want
                          go_big_quiet_op
                          go_big_quiet_on
                          repeat go_big_quiet_skip
                          go_big_quiet_want
                          apply Exists.intro
                          refine ⟨fun u hu => ?_, ?_⟩
                          · obtain ⟨hu0, hu1⟩ := hu
                            unfold Oper.quietAt
                            go_simp
                            try rfl
                          simp only [Act.put, List.setIfInBounds_toArray, List.set_cons_zero, List.set_cons_succ]
                          go_big_quiet_on
                          refine wpQuiet_nil ?_
                          rintro u3 ⟨k8, _⟩
                          go_wp2_with fail
                          go_ret
                          exact ⟨ret_b HV.out.symm, hb4.trans (k8.mono hsz4)⟩
                        · have jk : ((j : Int) == (0 : Int)) = false := by simp; omega
                          have hJs := hs.out _ (List.getElem_mem hj)
                          obtain ⟨ad', p2, e2, hp2, hab2, Ak, ck, t0, t1, t2, t3, t4, t5, _, _, hrk⟩ := hri.at_ hj
                          injection e2 with e2
                          subst e2
                          have HMA := Lib.hid (mu_some (i := 0) HF0.out hjk hj HG.out)
                          obtain ⟨y, hy⟩ : ∃ y, y = X[j] := ⟨_, rfl⟩
                          rw [← hy] at t0 t5 hrk hJs HMA
                          obtain ⟨mj, hmj⟩ : ∃ m, y.met.length = m := ⟨_, rfl⟩
                          rw [hmj] at t5 hJs
                          have HMJ := Lib.hid hmj
                          obtain ⟨ca, hca⟩ : ∃ ca : Int, ((y.met.count x.id : Nat) : Int) = ca := ⟨_, rfl⟩
                          obtain ⟨cb, hcb⟩ : ∃ cb : Int, ((x.met.count y.id : Nat) : Int) = cb := ⟨_, rfl⟩
                          have HCA := Lib.hid hca
                          have HCB := Lib.hid hcb
                          have HMC := Lib.hid (show muAt X 0 z = decide (ca = cb) by rw [HMA.out, ← hca, ← hcb]; exact mu_cast)
                          clear hy hmj hca hcb hjk
                          by_cases hcc : ca = cb
                          · have HP := Lib.hid (HSN.out (HMC.out.trans (decide_eq_true hcc)))
                            have hcn : (ca != cb) = false := by simp [hcc]
                            clear hcc
                            have KE := fun (v : World) (q : Below wr.heap.size wr v) => show Below wr.heap.size wr v ∧ v.cell? ⟨G, 0, none⟩ = some (.int .i64 x.id) ∧ v.cell? ⟨G, 5, none⟩ = some (.slice (some aj) m9 cj) ∧ v.cell? p2 = some (.int .i64 y.id) ∧ v.cell? ⟨p2.block, p2.off + 5, none⟩ = some (.slice Ak mj ck) from ⟨q, nwc5 q e0, nwc5 q e5, nwc5 q t0, nwc5 q t5⟩
                            go_wp2_with fail
                            refine (specFindTeam_any hl (by omega) hri).mono ?_
                            rintro e u1 ⟨rfl, rfl⟩
                            rw [HF.out]
                            go_wp2_with fail
                            refine wp_region_quiet (C := fun v => Below wr.heap.size wr v ∧ v.cell? ⟨G, 0, none⟩ = some (.int .i64 x.id) ∧ v.cell? ⟨G, 5, none⟩ = some (.slice (some aj) m9 cj) ∧ v.cell? p2 = some (.int .i64 y.id) ∧ v.cell? ⟨p2.block, p2.off + 5, none⟩ = some (.slice Ak mj ck)) (by kernel_rfl) (by kernel_rfl) (KE _ (Below.refl wr.heap.size wr).drew) ?_
                            rw [List.toList_toArray]
                            go_big_quiet_want
                            go_big_quiet_op
                            go_big_quiet_on
                            go_big_quiet_want
                            apply Exists.intro
                            refine ⟨fun u hu => ?_, ?_⟩
                            · obtain ⟨hu0, hu1, hu2, hu3, hu4⟩ := hu
                              unfold Oper.quietAt
                              go_simp
                              try rfl
                            simp only [Act.put, List.setIfInBounds_toArray, List.set_cons_zero, List.set_cons_succ]
                            go_big_quiet_on
                            go_big_quiet_want
                            go_big_quiet_op
                            go_big_quiet_on
                            go_big_quiet_want
                            go_big_quiet_op
                            go_big_quiet_on
                            go_big_quiet_want
                            go_big_quiet_op
                            go_big_quiet_on
                            go_big_quiet_want
                            apply Exists.intro
                            refine ⟨fun u hu => ?_, ?_⟩
                            · obtain ⟨hu0, hu1, hu2, hu3, hu4⟩ := hu
                              unfold Oper.quietAt
                              go_simp
                              try rfl
                            simp only [Act.put, List.setIfInBounds_toArray, List.set_cons_zero, List.set_cons_succ]
                            go_big_quiet_on
                            go_big_quiet_want
                            apply Exists.intro
                            refine ⟨fun u hu => ?_, ?_⟩
                            · obtain ⟨hu0, hu1, hu2, hu3, hu4⟩ := hu
                              unfold Oper.quietAt
                              go_simp
                              try rfl
                            simp only [Act.put, List.setIfInBounds_toArray, List.set_cons_zero, List.set_cons_succ]
                            go_big_quiet_on
                            go_big_quiet_want
                            go_big_quiet_op
                            go_big_quiet_on
                            go_big_quiet_want
                            go_big_quiet_op
                            go_big_quiet_on
                            go_big_quiet_want
                            go_big_quiet_op
                            go_big_quiet_on
                            go_big_quiet_want
                            apply Exists.intro
                            refine ⟨fun u hu => ?_, ?_⟩
                            · obtain ⟨hu0, hu1, hu2, hu3, hu4⟩ := hu
                              unfold Oper.quietAt
                              go_simp
                              try rfl
                            simp only [Act.put, List.setIfInBounds_toArray, List.set_cons_zero, List.set_cons_succ]
                            go_big_quiet_on
                            go_big_quiet_want
                            apply Exists.intro
                            refine ⟨fun u hu => ?_, ?_⟩
                            · obtain ⟨hu0, hu1, hu2, hu3, hu4⟩ := hu
                              unfold Oper.quietAt
                              go_simp
                              try rfl
                            simp only [Act.put, List.setIfInBounds_toArray, List.set_cons_zero, List.set_cons_succ]
                            go_big_quiet_on
                            go_big_quiet_want
                            apply Exists.intro
                            refine ⟨fun u hu => ?_, ?_⟩
                            · obtain ⟨hu0, hu1, hu2, hu3, hu4⟩ := hu
                              unfold Oper.quietAt
                              go_simp
                              try rfl
                            simp only [Act.put, List.setIfInBounds_toArray, List.set_cons_zero, List.set_cons_succ]
                            go_big_quiet_on
                            go_big_quiet_want
                            apply Exists.intro
                            refine ⟨fun u hu => ?_, ?_⟩
                            · obtain ⟨hu0, hu1, hu2, hu3, hu4⟩ := hu
                              unfold Oper.quietAt
                              go_simp
                              try rfl
                            simp only [Act.put, List.setIfInBounds_toArray, List.set_cons_zero, List.set_cons_succ]
                            go_big_quiet_on
                            go_big_quiet_want
                            apply Exists.intro
                            refine ⟨fun u hu => ?_, ?_⟩
                            · obtain ⟨hu0, hu1, hu2, hu3, hu4⟩ := hu
                              unfold Oper.quietAt
                              go_simp
                              try rfl
                            simp only [Act.put, List.setIfInBounds_toArray, List.set_cons_zero, List.set_cons_succ]
                            go_big_quiet_on
                            go_big_quiet_want
                            refine ⟨.int .i64 ca, fun u hu => ?_, ?_⟩
                            · obtain ⟨hu0, hu1, hu2, hu3, hu4⟩ := hu
                              unfold Oper.quietAt
                              go_simp
                              refine (l19Count_any (S := y.met) HMJ (by omega) ((hrk.below hu0).more hu0.size)).mono ?_
                              rintro e u9 ⟨he, rfl⟩
                              rw [HCA.out] at he
                              exact ⟨he, KE _ hu0⟩
                            simp only [Act.put, List.setIfInBounds_toArray, List.set_cons_zero, List.set_cons_succ]
                            go_big_quiet_on
                            go_big_quiet_want
                            apply Exists.intro
                            refine ⟨fun u hu => ?_, ?_⟩
                            · obtain ⟨hu0, hu1, hu2, hu3, hu4⟩ := hu
                              unfold Oper.quietAt
                              go_simp
                              try rfl
                            simp only [Act.put, List.setIfInBounds_toArray, List.set_cons_zero, List.set_cons_succ]
                            go_big_quiet_on
                            go_big_quiet_want
                            apply Exists.intro
                            refine ⟨fun u hu => ?_, ?_⟩
                            · obtain ⟨hu0, hu1, hu2, hu3, hu4⟩ := hu
                              unfold Oper.quietAt
                              go_simp
                              try rfl
                            simp only [Act.put, List.setIfInBounds_toArray, List.set_cons_zero, List.set_cons_succ]
                            go_big_quiet_on
                            go_big_quiet_want
                            go_big_quiet_op
                            go_big_quiet_on
                            go_big_quiet_want
                            go_big_quiet_op
                            go_big_quiet_on
                            go_big_quiet_want
                            apply Exists.intro
                            refine ⟨fun u hu => ?_, ?_⟩
                            · obtain ⟨hu0, hu1, hu2, hu3, hu4⟩ := hu
                              unfold Oper.quietAt
                              go_simp
                              try rfl
                            simp only [Act.put, List.setIfInBounds_toArray, List.set_cons_zero, List.set_cons_succ]
                            go_big_quiet_on
                            go_big_quiet_want
                            apply Exists.intro
                            refine ⟨fun u hu => ?_, ?_⟩
                            · obtain ⟨hu0, hu1, hu2, hu3, hu4⟩ := hu
                              unfold Oper.quietAt
                              go_simp
                              try rfl
                            simp only [Act.put, List.setIfInBounds_toArray, List.set_cons_zero, List.set_cons_succ]
                            go_big_quiet_on
                            go_big_quiet_want
                            apply Exists.intro
                            refine ⟨fun u hu => ?_, ?_⟩
                            · obtain ⟨hu0, hu1, hu2, hu3, hu4⟩ := hu
                              unfold Oper.quietAt
                              go_simp
                              try rfl
                            simp only [Act.put, List.setIfInBounds_toArray, List.set_cons_zero, List.set_cons_succ]
                            go_big_quiet_on
                            go_big_quiet_want
                            refine ⟨.int .i64 cb, fun u hu => ?_, ?_⟩
                            · obtain ⟨hu0, hu1, hu2, hu3, hu4⟩ := hu
                              unfold Oper.quietAt
                              go_simp
                              refine (l19Count_any (S := x.met) HM9 (by omega) ((hrji.below hu0).more hu0.size)).mono ?_
                              rintro e u9 ⟨he, rfl⟩
                              rw [HCB.out] at he
                              exact ⟨he, KE _ hu0⟩
                            simp only [Act.put, List.setIfInBounds_toArray, List.set_cons_zero, List.set_cons_succ]
                            go_big_quiet_on
                            go_big_quiet_want
                            apply Exists.intro
                            refine ⟨fun u hu => ?_, ?_⟩
                            · obtain ⟨hu0, hu1, hu2, hu3, hu4⟩ := hu
                              unfold Oper.quietAt
                              go_simp
                              try rfl
                            simp only [Act.put, List.setIfInBounds_toArray, List.set_cons_zero, List.set_cons_succ]
                            go_big_quiet_on
                            go_big_quiet_want
                            apply Exists.intro
                            refine ⟨fun u hu => ?_, ?_⟩
                            · obtain ⟨hu0, hu1, hu2, hu3, hu4⟩ := hu
                              unfold Oper.quietAt
                              go_simp
                              try rfl
                            simp only [Act.put, List.setIfInBounds_toArray, List.set_cons_zero, List.set_cons_succ]
                            go_big_quiet_on
                            refine wpQuiet_nil ?_
                            rintro u3 ⟨k8, _⟩
                            go_wp2_with fail
                            go_roundw
                            case rel => exact ⟨m + 1, by omega, by go_num, HP, hb3.trans (k8.mono hb3.size)⟩
                            case measure => simp [intOf]; omega
                          · have HV := Lib.hid (HMN.out (HMC.out.trans (decide_eq_false hcc)))
                            have hcn : (ca != cb) = true := by simpa using hcc
                            clear hcc
                            have KE := fun (v : World) (q : Below wr.heap.size wr v) => show Below wr.heap.size wr v ∧ v.cell? ⟨G, 0, none⟩ = some (.int .i64 x.id) ∧ v.cell? ⟨G, 5, none⟩ = some (.slice (some aj) m9 cj) ∧ v.cell? p2 = some (.int .i64 y.id) ∧ v.cell? ⟨p2.block, p2.off + 5, none⟩ = some (.slice Ak mj ck) from ⟨q, nwc5 q e0, nwc5 q e5, nwc5 q t0, nwc5 q t5⟩
                            go_wp2_with fail
                            refine (specFindTeam_any hl (by omega) hri).mono ?_
                            rintro e u1 ⟨rfl, rfl⟩
                            rw [HF.out]
                            go_wp2_with fail
                            refine wp_region_quiet (C := fun v => Below wr.heap.size wr v ∧ v.cell? ⟨G, 0, none⟩ = some (.int .i64 x.id) ∧ v.cell? ⟨G, 5, none⟩ = some (.slice (some aj) m9 cj) ∧ v.cell? p2 = some (.int .i64 y.id) ∧ v.cell? ⟨p2.block, p2.off + 5, none⟩ = some (.slice Ak mj ck)) (by kernel_rfl) (by kernel_rfl) (KE _ (Below.refl wr.heap.size wr).drew) ?_
                            rw [List.toList_toArray]
                            go_big_quiet_want
                            go_big_quiet_op
                            go_big_quiet_on
                            go_big_quiet_want
                            apply Exists.intro
                            refine ⟨fun u hu => ?_, ?_⟩
                            · obtain ⟨hu0, hu1, hu2, hu3, hu4⟩ := hu
                              unfold Oper.quietAt
                              go_simp
                              try rfl
                            simp only [Act.put, List.setIfInBounds_toArray, List.set_cons_zero, List.set_cons_succ]
                            go_big_quiet_on
                            go_big_quiet_want
                            go_big_quiet_op
                            go_big_quiet_on
                            go_big_quiet_want
                            go_big_quiet_op
                            go_big_quiet_on
                            go_big_quiet_want
                            go_big_quiet_op
                            go_big_quiet_on
                            go_big_quiet_want
                            apply Exists.intro
                            refine ⟨fun u hu => ?_, ?_⟩
                            · obtain ⟨hu0, hu1, hu2, hu3, hu4⟩ := hu
                              unfold Oper.quietAt
                              go_simp
                              try rfl
                            simp only [Act.put, List.setIfInBounds_toArray, List.set_cons_zero, List.set_cons_succ]
                            go_big_quiet_on
                            go_big_quiet_want
                            apply Exists.intro
                            refine ⟨fun u hu => ?_, ?_⟩
                            · obtain ⟨hu0, hu1, hu2, hu3, hu4⟩ := hu
                              unfold Oper.quietAt
                              go_simp
                              try rfl
                            simp only [Act.put, List.setIfInBounds_toArray, List.set_cons_zero, List.set_cons_succ]
                            go_big_quiet_on
                            go_big_quiet_want
                            go_big_quiet_op
                            go_big_quiet_on
                            go_big_quiet_want
                            go_big_quiet_op
                            go_big_quiet_on
                            go_big_quiet_want
                            go_big_quiet_op
                            go_big_quiet_on
                            go_big_quiet_want
                            apply Exists.intro
                            refine ⟨fun u hu => ?_, ?_⟩
                            · obtain ⟨hu0, hu1, hu2, hu3, hu4⟩ := hu
                              unfold Oper.quietAt
                              go_simp
                              try rfl
                            simp only [Act.put, List.setIfInBounds_toArray, List.set_cons_zero, List.set_cons_succ]
                            go_big_quiet_on
                            go_big_quiet_want
                            apply Exists.intro
                            refine ⟨fun u hu => ?_, ?_⟩
                            · obtain ⟨hu0, hu1, hu2, hu3, hu4⟩ := hu
                              unfold Oper.quietAt
                              go_simp
                              try rfl
                            simp only [Act.put, List.setIfInBounds_toArray, List.set_cons_zero, List.set_cons_succ]
                            go_big_quiet_on
                            go_big_quiet_want
                            apply Exists.intro
                            refine ⟨fun u hu => ?_, ?_⟩
                            · obtain ⟨hu0, hu1, hu2, hu3, hu4⟩ := hu
                              unfold Oper.quietAt
                              go_simp
                              try rfl
                            simp only [Act.put, List.setIfInBounds_toArray, List.set_cons_zero, List.set_cons_succ]
                            go_big_quiet_on
                            go_big_quiet_want
                            apply Exists.intro
                            refine ⟨fun u hu => ?_, ?_⟩
                            · obtain ⟨hu0, hu1, hu2, hu3, hu4⟩ := hu
                              unfold Oper.quietAt
                              go_simp
                              try rfl
                            simp only [Act.put, List.setIfInBounds_toArray, List.set_cons_zero, List.set_cons_succ]
                            go_big_quiet_on
                            go_big_quiet_want
                            apply Exists.intro
                            refine ⟨fun u hu => ?_, ?_⟩
                            · obtain ⟨hu0, hu1, hu2, hu3, hu4⟩ := hu
                              unfold Oper.quietAt
                              go_simp
                              try rfl
                            simp only [Act.put, List.setIfInBounds_toArray, List.set_cons_zero, List.set_cons_succ]
                            go_big_quiet_on
                            go_big_quiet_want
                            refine ⟨.int .i64 ca, fun u hu => ?_, ?_⟩
                            · obtain ⟨hu0, hu1, hu2, hu3, hu4⟩ := hu
                              unfold Oper.quietAt
                              go_simp
                              refine (l19Count_any (S := y.met) HMJ (by omega) ((hrk.below hu0).more hu0.size)).mono ?_
                              rintro e u9 ⟨he, rfl⟩
                              rw [HCA.out] at he
                              exact ⟨he, KE _ hu0⟩
                            simp only [Act.put, List.setIfInBounds_toArray, List.set_cons_zero, List.set_cons_succ]
                            go_big_quiet_on
                            go_big_quiet_want
                            apply Exists.intro
                            refine ⟨fun u hu => ?_, ?_⟩
                            · obtain ⟨hu0, hu1, hu2, hu3, hu4⟩ := hu
                              unfold Oper.quietAt
                              go_simp
                              try rfl
                            simp only [Act.put, List.setIfInBounds_toArray, List.set_cons_zero, List.set_cons_succ]
                            go_big_quiet_on
                            go_big_quiet_want
                            apply Exists.intro
                            refine ⟨fun u hu => ?_, ?_⟩
                            · obtain ⟨hu0, hu1, hu2, hu3, hu4⟩ := hu
                              unfold Oper.quietAt
                              go_simp
                              try rfl
                            simp only [Act.put, List.setIfInBounds_toArray, List.set_cons_zero, List.set_cons_succ]
                            go_big_quiet_on
                            go_big_quiet_want
                            go_big_quiet_op
                            go_big_quiet_on
                            go_big_quiet_want
                            go_big_quiet_op
                            go_big_quiet_on
                            go_big_quiet_want
                            apply Exists.intro
                            refine ⟨fun u hu => ?_, ?_⟩
                            · obtain ⟨hu0, hu1, hu2, hu3, hu4⟩ := hu
                              unfold Oper.quietAt
                              go_simp
                              try rfl
                            simp only [Act.put, List.setIfInBounds_toArray, List.set_cons_zero, List.set_cons_succ]
                            go_big_quiet_on
                            go_big_quiet_want
                            apply Exists.intro
                            refine ⟨fun u hu => ?_, ?_⟩
                            · obtain ⟨hu0, hu1, hu2, hu3, hu4⟩ := hu
                              unfold Oper.quietAt
                              go_simp
                              try rfl
                            simp only [Act.put, List.setIfInBounds_toArray, List.set_cons_zero, List.set_cons_succ]
                            go_big_quiet_on
                            go_big_quiet_want
                            apply Exists.intro
                            refine ⟨fun u hu => ?_, ?_⟩
                            · obtain ⟨hu0, hu1, hu2, hu3, hu4⟩ := hu
                              unfold Oper.quietAt
                              go_simp
                              try rfl
                            simp only [Act.put, List.setIfInBounds_toArray, List.set_cons_zero, List.set_cons_succ]
                            go_big_quiet_on
                            go_big_quiet_want
                            refine ⟨.int .i64 cb, fun u hu => ?_, ?_⟩
                            · obtain ⟨hu0, hu1, hu2, hu3, hu4⟩ := hu
                              unfold Oper.quietAt
                              go_simp
                              refine (l19Count_any (S := x.met) HM9 (by omega) ((hrji.below hu0).more hu0.size)).mono ?_
                              rintro e u9 ⟨he, rfl⟩
                              rw [HCB.out] at he
                              exact ⟨he, KE _ hu0⟩
                            simp only [Act.put, List.setIfInBounds_toArray, List.set_cons_zero, List.set_cons_succ]
                            go_big_quiet_on
                            go_big_quiet_want
                            apply Exists.intro
                            refine ⟨fun u hu => ?_, ?_⟩
                            · obtain ⟨hu0, hu1, hu2, hu3, hu4⟩ := hu
                              unfold Oper.quietAt
                              go_simp
                              try rfl
                            simp only [Act.put, List.setIfInBounds_toArray, List.set_cons_zero, List.set_cons_succ]
                            go_big_quiet_on
                            go_big_quiet_want
                            apply Exists.intro
                            refine ⟨fun u hu => ?_, ?_⟩
                            · obtain ⟨hu0, hu1, hu2, hu3, hu4⟩ := hu
                              unfold Oper.quietAt
                              go_simp
                              try rfl
                            simp only [Act.put, List.setIfInBounds_toArray, List.set_cons_zero, List.set_cons_succ]
                            go_big_quiet_on
                            refine wpQuiet_nil ?_
                            rintro u3 ⟨k8, _⟩
                            go_wp2_with fail
                            go_ret
                            exact ⟨ret_b HV.out.symm, hb4.trans (k8.mono hsz4)⟩
                    · have e : m = m9 := by omega
                      subst e
                      have HP := Lib.hid (te_snoc ha.out (atAt_y HG.out HOK.out HTP.out (mu_end HM9.out hma.out)))
                      go_wp2_with fail
                      go_roundw
                      case rel => exact ⟨1, by omega, by go_num, HP, hb4⟩
                      case measure => simp [intOf]; omega
                · obtain ⟨j, hj⟩ : ∃ j, k = j + 1 := ⟨k - 1, by omega⟩
                  have hk1 : j < X.length := by omega
                  have j0 : (0 : Int) ≤ (j : Int) := by omega
                  have j1 : (j : Int) < (n : Int) := by omega
                  have hwj : IntKind.i64.wrap ((k : Int) - 1) = (j : Int) := (IntWalk.i64_in ((k : Int) - 1) (by omega)).trans (by omega)
                  have hkp : 0 < k := by omega
                  have hkp' : (0 : Int) < (k : Int) := by omega
                  have dk : decide ((0 : Int) < (k : Int)) = true := decide_eq_true hkp'
                  obtain ⟨ad', p', e', hp', hab', _, _, g0, _⟩ := hrw.at_ hk1
                  injection e' with e'
                  subst e'
                  have hDj := te_ids hk1
                  obtain ⟨y, hy⟩ : ∃ y, y = X[j] := ⟨_, rfl⟩
                  rw [← hy] at g0 hDj
                  have HA := Lib.hid (asc_2 HD.out hj hDj q1)
                  have H1 := Lib.hid q1
                  have H2 := Lib.hid q2
                  have H3 := Lib.hid q3
                  have H4 := Lib.hid q4
                  have H5 := Lib.hid q5
                  clear q1 q2 q3 q4 q5 q6 hj hy hDj
                  by_cases hxy : y.id < x.id
                  · have HOK := Lib.hid (HA.out.trans (decide_eq_true hxy))
                    have d1 : decide (x.id ≤ y.id) = false := decide_eq_false (by omega)
                    have KE := fun (u : World) (q : Below W2.heap.size W2 u) => show Below W2.heap.size W2 u ∧ u.cell? ⟨G, 0, none⟩ = some (.int .i64 x.id) ∧ u.cell? ⟨G, 1, none⟩ = some (.int .i64 x.club) ∧ u.cell? ⟨G, 2, none⟩ = some (.int .i64 x.wins) ∧ u.cell? ⟨G, 3, none⟩ = some (.int .i64 x.pts) ∧ u.cell? ⟨G, 4, none⟩ = some (.int .i64 x.firsts) ∧ u.cell? ⟨G, 5, none⟩ = some (.slice Aj m9 cj) ∧ u.cell? p' = some (.int .i64 y.id) from ⟨q, nwc5 q c0, nwc5 q c1, nwc5 q c2, nwc5 q c3, nwc5 q c4, nwc5 q c5, nwc5 q g0⟩
                    go_wp2_with fail
                    rw [HW2.out]
                    try (go_wp2_with fail)
                    refine wp_region_quiet (C := fun u => Below W2.heap.size W2 u ∧ u.cell? ⟨G, 0, none⟩ = some (.int .i64 x.id) ∧ u.cell? ⟨G, 1, none⟩ = some (.int .i64 x.club) ∧ u.cell? ⟨G, 2, none⟩ = some (.int .i64 x.wins) ∧ u.cell? ⟨G, 3, none⟩ = some (.int .i64 x.pts) ∧ u.cell? ⟨G, 4, none⟩ = some (.int .i64 x.firsts) ∧ u.cell? ⟨G, 5, none⟩ = some (.slice Aj m9 cj) ∧ u.cell? p' = some (.int .i64 y.id)) (by kernel_rfl) (by kernel_rfl) (KE _ (Below.refl W2.heap.size W2).drew) ?_
                    rw [List.toList_toArray]
                    go_big_quiet_want
                    apply Exists.intro
                    refine ⟨fun u hu => ?_, ?_⟩
                    · obtain ⟨hu0, hu1, hu2, hu3, hu4, hu5, hu6, hu7⟩ := hu
                      unfold Oper.quietAt
                      go_simp
                      try rfl
                    simp only [Act.put, List.setIfInBounds_toArray, List.set_cons_zero, List.set_cons_succ]
                    go_big_quiet_on
                    go_big_quiet_want
                    apply Exists.intro
                    refine ⟨fun u hu => ?_, ?_⟩
                    · obtain ⟨hu0, hu1, hu2, hu3, hu4, hu5, hu6, hu7⟩ := hu
                      unfold Oper.quietAt
                      go_simp
                      try rfl
                    simp only [Act.put, List.setIfInBounds_toArray, List.set_cons_zero, List.set_cons_succ]
                    go_big_quiet_on
                    go_big_quiet_want
                    refine ⟨.bool true, fun u hu => ?_, ?_⟩
                    · obtain ⟨hu0, hu1, hu2, hu3, hu4, hu5, hu6, hu7⟩ := hu
                      unfold Oper.quietAt
                      go_simp
                      refine (l1In_any _ _ _ _).mono ?_
                      rintro e u9 ⟨he, rfl⟩
                      rw [H1.out] at he
                      exact ⟨he, KE _ hu0⟩
                    simp only [Act.put, List.setIfInBounds_toArray, List.set_cons_zero, List.set_cons_succ]
                    go_big_quiet_on
                    go_big_quiet_want
                    apply Exists.intro
                    refine ⟨fun u hu => ?_, ?_⟩
                    · obtain ⟨hu0, hu1, hu2, hu3, hu4, hu5, hu6, hu7⟩ := hu
                      unfold Oper.quietAt
                      go_simp
                      try rfl
                    simp only [Act.put, List.setIfInBounds_toArray, List.set_cons_zero, List.set_cons_succ]
                    go_big_quiet_on
                    go_big_quiet_want
                    go_big_quiet_op
                    go_big_quiet_on
                    go_big_quiet_want
                    apply Exists.intro
                    refine ⟨fun u hu => ?_, ?_⟩
                    · obtain ⟨hu0, hu1, hu2, hu3, hu4, hu5, hu6, hu7⟩ := hu
                      unfold Oper.quietAt
                      go_simp
                      try rfl
                    simp only [Act.put, List.setIfInBounds_toArray, List.set_cons_zero, List.set_cons_succ]
                    go_big_quiet_on
                    go_big_quiet_want
                    apply Exists.intro
                    refine ⟨fun u hu => ?_, ?_⟩
                    · obtain ⟨hu0, hu1, hu2, hu3, hu4, hu5, hu6, hu7⟩ := hu
                      unfold Oper.quietAt
                      go_simp
                      try rfl
                    simp only [Act.put, List.setIfInBounds_toArray, List.set_cons_zero, List.set_cons_succ]
                    go_big_quiet_on
                    go_big_quiet_want
                    refine ⟨.bool true, fun u hu => ?_, ?_⟩
                    · obtain ⟨hu0, hu1, hu2, hu3, hu4, hu5, hu6, hu7⟩ := hu
                      unfold Oper.quietAt
                      go_simp
                      refine (l1In_any _ _ _ _).mono ?_
                      rintro e u9 ⟨he, rfl⟩
                      rw [H2.out] at he
                      exact ⟨he, KE _ hu0⟩
                    simp only [Act.put, List.setIfInBounds_toArray, List.set_cons_zero, List.set_cons_succ]
                    go_big_quiet_on
                    go_big_quiet_want
                    apply Exists.intro
                    refine ⟨fun u hu => ?_, ?_⟩
                    · obtain ⟨hu0, hu1, hu2, hu3, hu4, hu5, hu6, hu7⟩ := hu
                      unfold Oper.quietAt
                      go_simp
                      try rfl
                    simp only [Act.put, List.setIfInBounds_toArray, List.set_cons_zero, List.set_cons_succ]
                    go_big_quiet_on
                    go_big_quiet_want
                    apply Exists.intro
                    refine ⟨fun u hu => ?_, ?_⟩
                    · obtain ⟨hu0, hu1, hu2, hu3, hu4, hu5, hu6, hu7⟩ := hu
                      unfold Oper.quietAt
                      go_simp
                      try rfl
                    simp only [Act.put, List.setIfInBounds_toArray, List.set_cons_zero, List.set_cons_succ]
                    go_big_quiet_on
                    go_big_quiet_want
                    go_big_quiet_op
                    go_big_quiet_on
                    go_big_quiet_want
                    apply Exists.intro
                    refine ⟨fun u hu => ?_, ?_⟩
                    · obtain ⟨hu0, hu1, hu2, hu3, hu4, hu5, hu6, hu7⟩ := hu
                      unfold Oper.quietAt
                      go_simp
                      try rfl
                    simp only [Act.put, List.setIfInBounds_toArray, List.set_cons_zero, List.set_cons_succ]
                    go_big_quiet_on
                    go_big_quiet_want
                    apply Exists.intro
                    refine ⟨fun u hu => ?_, ?_⟩
                    · obtain ⟨hu0, hu1, hu2, hu3, hu4, hu5, hu6, hu7⟩ := hu
                      unfold Oper.quietAt
                      go_simp
                      try rfl
                    simp only [Act.put, List.setIfInBounds_toArray, List.set_cons_zero, List.set_cons_succ]
                    go_big_quiet_on
                    go_big_quiet_want
                    apply Exists.intro
                    refine ⟨fun u hu => ?_, ?_⟩
                    · obtain ⟨hu0, hu1, hu2, hu3, hu4, hu5, hu6, hu7⟩ := hu
                      unfold Oper.quietAt
                      go_simp
                      try rfl
                    simp only [Act.put, List.setIfInBounds_toArray, List.set_cons_zero, List.set_cons_succ]
                    go_big_quiet_on
                    go_big_quiet_want
                    apply Exists.intro
                    refine ⟨fun u hu => ?_, ?_⟩
                    · obtain ⟨hu0, hu1, hu2, hu3, hu4, hu5, hu6, hu7⟩ := hu
                      unfold Oper.quietAt
                      go_simp
                      try rfl
                    simp only [Act.put, List.setIfInBounds_toArray, List.set_cons_zero, List.set_cons_succ]
                    go_big_quiet_on
                    go_big_quiet_want
                    apply Exists.intro
                    refine ⟨fun u hu => ?_, ?_⟩
                    · obtain ⟨hu0, hu1, hu2, hu3, hu4, hu5, hu6, hu7⟩ := hu
                      unfold Oper.quietAt
                      go_simp
                      try rfl
                    simp only [Act.put, List.setIfInBounds_toArray, List.set_cons_zero, List.set_cons_succ]
                    go_big_quiet_on
                    go_big_quiet_want
                    refine ⟨.bool true, fun u hu => ?_, ?_⟩
                    · obtain ⟨hu0, hu1, hu2, hu3, hu4, hu5, hu6, hu7⟩ := hu
                      unfold Oper.quietAt
                      go_simp
                      refine (l1In_any _ _ _ _).mono ?_
                      rintro e u9 ⟨he, rfl⟩
                      rw [H3.out] at he
                      exact ⟨he, KE _ hu0⟩
                    simp only [Act.put, List.setIfInBounds_toArray, List.set_cons_zero, List.set_cons_succ]
                    go_big_quiet_on
                    go_big_quiet_want
                    apply Exists.intro
                    refine ⟨fun u hu => ?_, ?_⟩
                    · obtain ⟨hu0, hu1, hu2, hu3, hu4, hu5, hu6, hu7⟩ := hu
                      unfold Oper.quietAt
                      go_simp
                      try rfl
                    simp only [Act.put, List.setIfInBounds_toArray, List.set_cons_zero, List.set_cons_succ]
                    go_big_quiet_on
                    go_big_quiet_want
                    apply Exists.intro
                    refine ⟨fun u hu => ?_, ?_⟩
                    · obtain ⟨hu0, hu1, hu2, hu3, hu4, hu5, hu6, hu7⟩ := hu
                      unfold Oper.quietAt
                      go_simp
                      try rfl
                    simp only [Act.put, List.setIfInBounds_toArray, List.set_cons_zero, List.set_cons_succ]
                    go_big_quiet_on
                    go_big_quiet_want
                    go_big_quiet_op
                    go_big_quiet_on
                    go_big_quiet_want
                    apply Exists.intro
                    refine ⟨fun u hu => ?_, ?_⟩
                    · obtain ⟨hu0, hu1, hu2, hu3, hu4, hu5, hu6, hu7⟩ := hu
                      unfold Oper.quietAt
                      go_simp
                      try rfl
                    simp only [Act.put, List.setIfInBounds_toArray, List.set_cons_zero, List.set_cons_succ]
                    go_big_quiet_on
                    go_big_quiet_want
                    apply Exists.intro
                    refine ⟨fun u hu => ?_, ?_⟩
                    · obtain ⟨hu0, hu1, hu2, hu3, hu4, hu5, hu6, hu7⟩ := hu
                      unfold Oper.quietAt
                      go_simp
                      try rfl
                    simp only [Act.put, List.setIfInBounds_toArray, List.set_cons_zero, List.set_cons_succ]
                    go_big_quiet_on
                    go_big_quiet_want
                    apply Exists.intro
                    refine ⟨fun u hu => ?_, ?_⟩
                    · obtain ⟨hu0, hu1, hu2, hu3, hu4, hu5, hu6, hu7⟩ := hu
                      unfold Oper.quietAt
                      go_simp
                      try rfl
                    simp only [Act.put, List.setIfInBounds_toArray, List.set_cons_zero, List.set_cons_succ]
                    go_big_quiet_on
                    go_big_quiet_want
                    apply Exists.intro
                    refine ⟨fun u hu => ?_, ?_⟩
                    · obtain ⟨hu0, hu1, hu2, hu3, hu4, hu5, hu6, hu7⟩ := hu
                      unfold Oper.quietAt
                      go_simp
                      try rfl
                    simp only [Act.put, List.setIfInBounds_toArray, List.set_cons_zero, List.set_cons_succ]
                    go_big_quiet_on
                    go_big_quiet_want
                    apply Exists.intro
                    refine ⟨fun u hu => ?_, ?_⟩
                    · obtain ⟨hu0, hu1, hu2, hu3, hu4, hu5, hu6, hu7⟩ := hu
                      unfold Oper.quietAt
                      go_simp
                      try rfl
                    simp only [Act.put, List.setIfInBounds_toArray, List.set_cons_zero, List.set_cons_succ]
                    go_big_quiet_on
                    go_big_quiet_want
                    refine ⟨.bool true, fun u hu => ?_, ?_⟩
                    · obtain ⟨hu0, hu1, hu2, hu3, hu4, hu5, hu6, hu7⟩ := hu
                      unfold Oper.quietAt
                      go_simp
                      refine (l1In_any _ _ _ _).mono ?_
                      rintro e u9 ⟨he, rfl⟩
                      rw [H4.out] at he
                      exact ⟨he, KE _ hu0⟩
                    simp only [Act.put, List.setIfInBounds_toArray, List.set_cons_zero, List.set_cons_succ]
                    go_big_quiet_on
                    go_big_quiet_want
                    apply Exists.intro
                    refine ⟨fun u hu => ?_, ?_⟩
                    · obtain ⟨hu0, hu1, hu2, hu3, hu4, hu5, hu6, hu7⟩ := hu
                      unfold Oper.quietAt
                      go_simp
                      try rfl
                    simp only [Act.put, List.setIfInBounds_toArray, List.set_cons_zero, List.set_cons_succ]
                    go_big_quiet_on
                    go_big_quiet_want
                    apply Exists.intro
                    refine ⟨fun u hu => ?_, ?_⟩
                    · obtain ⟨hu0, hu1, hu2, hu3, hu4, hu5, hu6, hu7⟩ := hu
                      unfold Oper.quietAt
                      go_simp
                      try rfl
                    simp only [Act.put, List.setIfInBounds_toArray, List.set_cons_zero, List.set_cons_succ]
                    go_big_quiet_on
                    go_big_quiet_want
                    go_big_quiet_op
                    go_big_quiet_on
                    go_big_quiet_want
                    apply Exists.intro
                    refine ⟨fun u hu => ?_, ?_⟩
                    · obtain ⟨hu0, hu1, hu2, hu3, hu4, hu5, hu6, hu7⟩ := hu
                      unfold Oper.quietAt
                      go_simp
                      try rfl
                    simp only [Act.put, List.setIfInBounds_toArray, List.set_cons_zero, List.set_cons_succ]
                    go_big_quiet_on
                    go_big_quiet_want
                    apply Exists.intro
                    refine ⟨fun u hu => ?_, ?_⟩
                    · obtain ⟨hu0, hu1, hu2, hu3, hu4, hu5, hu6, hu7⟩ := hu
                      unfold Oper.quietAt
                      go_simp
                      try rfl
                    simp only [Act.put, List.setIfInBounds_toArray, List.set_cons_zero, List.set_cons_succ]
                    go_big_quiet_on
                    go_big_quiet_want
                    refine ⟨.bool true, fun u hu => ?_, ?_⟩
                    · obtain ⟨hu0, hu1, hu2, hu3, hu4, hu5, hu6, hu7⟩ := hu
                      unfold Oper.quietAt
                      go_simp
                      refine (l1In_any _ _ _ _).mono ?_
                      rintro e u9 ⟨he, rfl⟩
                      rw [H5.out] at he
                      exact ⟨he, KE _ hu0⟩
                    simp only [Act.put, List.setIfInBounds_toArray, List.set_cons_zero, List.set_cons_succ]
                    go_big_quiet_on
                    go_big_quiet_want
                    apply Exists.intro
                    refine ⟨fun u hu => ?_, ?_⟩
                    · obtain ⟨hu0, hu1, hu2, hu3, hu4, hu5, hu6, hu7⟩ := hu
                      unfold Oper.quietAt
                      go_simp
                      try rfl
                    simp only [Act.put, List.setIfInBounds_toArray, List.set_cons_zero, List.set_cons_succ]
                    go_big_quiet_on
                    go_big_quiet_want
                    apply Exists.intro
                    refine ⟨fun u hu => ?_, ?_⟩
                    · obtain ⟨hu0, hu1, hu2, hu3, hu4, hu5, hu6, hu7⟩ := hu
                      unfold Oper.quietAt
                      go_simp
                      try rfl
                    simp only [Act.put, List.setIfInBounds_toArray, List.set_cons_zero, List.set_cons_succ]
                    go_big_quiet_on
                    go_big_quiet_want
                    go_big_quiet_op
                    go_big_quiet_on
                    go_big_quiet_want
                    apply Exists.intro
                    refine ⟨fun u hu => ?_, ?_⟩
                    · obtain ⟨hu0, hu1, hu2, hu3, hu4, hu5, hu6, hu7⟩ := hu
                      unfold Oper.quietAt
                      go_simp
                      try rfl
                    simp only [Act.put, List.setIfInBounds_toArray, List.set_cons_zero, List.set_cons_succ]
                    go_big_quiet_on
                    go_big_quiet_want
                    apply Exists.intro
                    refine ⟨fun u hu => ?_, ?_⟩
                    · obtain ⟨hu0, hu1, hu2, hu3, hu4, hu5, hu6, hu7⟩ := hu
                      unfold Oper.quietAt
                      go_simp
                      try rfl
                    simp only [Act.put, List.setIfInBounds_toArray, List.set_cons_zero, List.set_cons_succ]
                    go_big_quiet_on
                    go_big_quiet_want
                    apply Exists.intro
                    refine ⟨fun u hu => ?_, ?_⟩
                    · obtain ⟨hu0, hu1, hu2, hu3, hu4, hu5, hu6, hu7⟩ := hu
                      unfold Oper.quietAt
                      go_simp
                      try rfl
                    simp only [Act.put, List.setIfInBounds_toArray, List.set_cons_zero, List.set_cons_succ]
                    go_big_quiet_on
                    go_big_quiet_want
                    apply Exists.intro
                    refine ⟨fun u hu => ?_, ?_⟩
                    · obtain ⟨hu0, hu1, hu2, hu3, hu4, hu5, hu6, hu7⟩ := hu
                      unfold Oper.quietAt
                      go_simp
                      try rfl
                    simp only [Act.put, List.setIfInBounds_toArray, List.set_cons_zero, List.set_cons_succ]
                    go_big_quiet_on
                    go_big_quiet_want
                    apply Exists.intro
                    refine ⟨fun u hu => ?_, ?_⟩
                    · obtain ⟨hu0, hu1, hu2, hu3, hu4, hu5, hu6, hu7⟩ := hu
                      unfold Oper.quietAt
                      go_simp
                      try rfl
                    simp only [Act.put, List.setIfInBounds_toArray, List.set_cons_zero, List.set_cons_succ]
                    go_big_quiet_on
                    go_big_quiet_want
                    go_big_quiet_op
                    go_big_quiet_on
                    go_big_quiet_want
                    go_big_quiet_op
                    go_big_quiet_on
                    go_big_quiet_want
                    apply Exists.intro
                    refine ⟨fun u hu => ?_, ?_⟩
                    · obtain ⟨hu0, hu1, hu2, hu3, hu4, hu5, hu6, hu7⟩ := hu
                      unfold Oper.quietAt
                      go_simp
                      try rfl
                    simp only [Act.put, List.setIfInBounds_toArray, List.set_cons_zero, List.set_cons_succ]
                    go_big_quiet_on
                    go_big_quiet_want
                    go_big_quiet_op
                    go_big_quiet_on
                    go_big_quiet_want
                    go_big_quiet_op
                    go_big_quiet_on
                    go_big_quiet_want
                    go_big_quiet_op
                    go_big_quiet_on
                    go_big_quiet_want
                    apply Exists.intro
                    refine ⟨fun u hu => ?_, ?_⟩
                    · obtain ⟨hu0, hu1, hu2, hu3, hu4, hu5, hu6, hu7⟩ := hu
                      unfold Oper.quietAt
                      go_simp
                      try rfl
                    simp only [Act.put, List.setIfInBounds_toArray, List.set_cons_zero, List.set_cons_succ]
                    go_big_quiet_on
                    go_big_quiet_want
                    apply Exists.intro
                    refine ⟨fun u hu => ?_, ?_⟩
                    · obtain ⟨hu0, hu1, hu2, hu3, hu4, hu5, hu6, hu7⟩ := hu
                      unfold Oper.quietAt
                      go_simp
                      try rfl
                    simp only [Act.put, List.setIfInBounds_toArray, List.set_cons_zero, List.set_cons_succ]
                    go_big_quiet_on
                    go_big_quiet_want
                    apply Exists.intro
                    refine ⟨fun u hu => ?_, ?_⟩
                    · obtain ⟨hu0, hu1, hu2, hu3, hu4, hu5, hu6, hu7⟩ := hu
                      unfold Oper.quietAt
                      go_simp
                      try rfl
                    simp only [Act.put, List.setIfInBounds_toArray, List.set_cons_zero, List.set_cons_succ]
                    go_big_quiet_on
                    go_big_quiet_want
                    apply Exists.intro
                    refine ⟨fun u hu => ?_, ?_⟩
                    · obtain ⟨hu0, hu1, hu2, hu3, hu4, hu5, hu6, hu7⟩ := hu
                      unfold Oper.quietAt
                      go_simp
                      try rfl
                    simp only [Act.put, List.setIfInBounds_toArray, List.set_cons_zero, List.set_cons_succ]
                    go_big_quiet_on
                    go_big_quiet_want
                    apply Exists.intro
                    refine ⟨fun u hu => ?_, ?_⟩
                    · obtain ⟨hu0, hu1, hu2, hu3, hu4, hu5, hu6, hu7⟩ := hu
                      unfold Oper.quietAt
                      go_simp
                      try rfl
                    simp only [Act.put, List.setIfInBounds_toArray, List.set_cons_zero, List.set_cons_succ]
                    go_big_quiet_on
                    go_big_quiet_want
                    apply Exists.intro
                    refine ⟨fun u hu => ?_, ?_⟩
                    · obtain ⟨hu0, hu1, hu2, hu3, hu4, hu5, hu6, hu7⟩ := hu
                      unfold Oper.quietAt
                      go_simp
                      try rfl
                    simp only [Act.put, List.setIfInBounds_toArray, List.set_cons_zero, List.set_cons_succ]
                    go_big_quiet_on
                    go_big_quiet_want
                    apply Exists.intro
                    refine ⟨fun u hu => ?_, ?_⟩
                    · obtain ⟨hu0, hu1, hu2, hu3, hu4, hu5, hu6, hu7⟩ := hu
                      unfold Oper.quietAt
                      go_simp
                      try rfl
                    simp only [Act.put, List.setIfInBounds_toArray, List.set_cons_zero, List.set_cons_succ]
                    go_big_quiet_on
                    go_big_quiet_want
                    apply Exists.intro
                    refine ⟨fun u hu => ?_, ?_⟩
                    · obtain ⟨hu0, hu1, hu2, hu3, hu4, hu5, hu6, hu7⟩ := hu
                      unfold Oper.quietAt
                      go_simp
                      try rfl
                    simp only [Act.put, List.setIfInBounds_toArray, List.set_cons_zero, List.set_cons_succ]
                    go_big_quiet_on
                    go_big_quiet_want
                    apply Exists.intro
                    refine ⟨fun u hu => ?_, ?_⟩
                    · obtain ⟨hu0, hu1, hu2, hu3, hu4, hu5, hu6, hu7⟩ := hu
                      unfold Oper.quietAt
                      go_simp
                      try rfl
                    simp only [Act.put, List.setIfInBounds_toArray, List.set_cons_zero, List.set_cons_succ]
                    go_big_quiet_on
                    refine wpQuiet_nil ?_
                    rintro u ⟨k9, d0, d1, d2, d3, d4, d5, _⟩
                    have hbu := hbw.trans (k9.mono hsw)
                    have hszu := hbu.size
                    have hru := (hrw.below k9).more k9.size
                    have hrju := (hrjw.below k9).more k9.size
                    clear KE
                    go_wp2_with fail
                    go_loopw [5] (fun i wi => ∃ m : Nat, m ≤ m9 ∧ i = .int .i64 m ∧ Hid ((x.met.take m).all (muAt X k) = true) ∧ Below u.heap.size u wi) (fun i _ => m9 - (intOf i).toNat)
                    case atStart => exact ⟨0, Nat.zero_le _, rfl, Lib.hid rfl, Below.refl _ _⟩
                    case round =>
                      obtain ⟨m, hm, rfl, hma, hb3⟩ := hrel
                      have e0 := nwc5 hb3 d0
                      have e5 := nwc5 hb3 d5
                      have hri := (hru.below hb3).more hb3.size
                      have hrji := (hrju.below hb3).more hb3.size
                      have hb4 := hbu.trans (hb3.mono hszu)
                      have hsz4 := hb4.size
                      by_cases hlm : m < m9
                      · have hmz : m < x.met.length := by rw [HM9.out]; exact hlm
                        obtain ⟨aj, rfl, haj, f0⟩ := ivs_at hrji hmz
                        obtain ⟨q, hq⟩ : ∃ q, aj.add m = q := ⟨_, rfl⟩
                        rw [hq] at f0
                        have HSN := Lib.hid (fun h => mu_snoc hma.out hmz h)
                        have hzm : x.met[m] ∈ x.met := List.getElem_mem hmz
                        have HMN := Lib.hid (fun h => HNO.out (atAt_m HG.out hzm h))
                        obtain ⟨z, hz⟩ : ∃ z, z = x.met[m] := ⟨_, rfl⟩
                        rw [← hz] at f0 HSN HMN
                        clear hz hzm
                        have m0 : (0 : Int) ≤ (m : Int) := by omega
                        have m1 : (m : Int) < (m9 : Int) := by omega
                        cases hf : fndO X z with
                        | none =>
                          have HF := Lib.hid (fndI_none hf)
                          have HV := Lib.hid (HMN.out (mu_none hf))
                          clear hf
                          go_wp2_with fail
                          refine (specFindTeam_any hl (by omega) hri).mono ?_
                          rintro e u1 ⟨rfl, rfl⟩
                          rw [HF.out]
                          have KE := fun (v : World) (q : Below wr.heap.size wr v) => show Below wr.heap.size wr v ∧ v.cell? ⟨G, 0, none⟩ = some (.int .i64 x.id) from ⟨q, nwc5 q e0⟩
                          go_wp2_with fail
                          refine wp_region_quiet (C := fun v => Below wr.heap.size wr v ∧ v.cell? ⟨G, 0, none⟩ = some (.int .i64 x.id)) (by kernel_rfl) (by kernel_rfl) (KE _ (Below.refl wr.heap.size wr).drew) ?_
                          rw [List.toList_toArray]
                          go_big_quiet_want
                          go_big_quiet_op
                          go_big_quiet_on
                          go_big_quiet_want
                          apply Exists.intro
                          refine ⟨fun u hu => ?_, ?_⟩
                          · obtain ⟨hu0, hu1⟩ := hu
                            unfold Oper.quietAt
                            go_simp
                            try rfl
                          simp only [Act.put, List.setIfInBounds_toArray, List.set_cons_zero, List.set_cons_succ]
                          go_big_quiet_on
                          go_big_quiet_want
                          go_big_quiet_op
                          go_big_quiet_on
                          repeat go_big_quiet_skip
                          go_big_quiet_want
                          apply Exists.intro
                          refine ⟨fun u hu => ?_, ?_⟩
                          · obtain ⟨hu0, hu1⟩ := hu
                            unfold Oper.quietAt
                            go_simp
                            try rfl
                          simp only [Act.put, List.setIfInBounds_toArray, List.set_cons_zero, List.set_cons_succ]
                          go_big_quiet_on
                          go_big_quiet_want
                          go_big_quiet_op
                          go_big_quiet_on
                          repeat go_big_quiet_skip
                          go_big_quiet_want
                          apply Exists.intro
                          refine ⟨fun u hu => ?_, ?_⟩
                          · obtain ⟨hu0, hu1⟩ := hu
                            unfold Oper.quietAt
                            go_simp
                            try rfl
                          simp only [Act.put, List.setIfInBounds_toArray, List.set_cons_zero, List.set_cons_succ]
                          go_big_quiet_on
                          refine wpQuiet_nil ?_
                          rintro u3 ⟨k8, _⟩
                          go_wp2_with fail
                          go_ret
                          exact ⟨ret_b HV.out.symm, hb4.trans (k8.mono hsz4)⟩
                        | some v =>
                          have HF := Lib.hid (fndI_some hf)
                          have HF0 := Lib.hid hf
                          obtain ⟨j, hvj, hj, hje, _⟩ := fndO_some hf
                          subst hvj
                          have hjn : j < n := by rw [← hl.out]; exact hj
                          have j0 : (0 : Int) ≤ (j : Int) := by omega
                          have j1 : (j : Int) < (n : Int) := by omega
                          have jn : decide ((j : Int) < 0) = false := decide_eq_false (by omega)
                          clear hf hje
                          by_cases hjk : j = k
                          · subst hjk
                            have HV := Lib.hid (HMN.out (mu_same HF0.out))
                            go_wp2_with fail
                            refine (specFindTeam_any hl (by omega) hri).mono ?_
                            rintro e u1 ⟨rfl, rfl⟩
                            rw [HF.out]
                            have KE := fun (v : World) (q : Below wr.heap.size wr v) => show Below wr.heap.size wr v ∧ v.cell? ⟨G, 0, none⟩ = some (.int .i64 x.id) from ⟨q, nwc5 q e0⟩
                            go_wp2_with fail
                            refine wp_region_quiet (C := fun v => Below wr.heap.size wr v ∧ v.cell? ⟨G, 0, none⟩ = some (.int .i64 x.id)) (by kernel_rfl) (by kernel_rfl) (KE _ (Below.refl wr.heap.size wr).drew) ?_
                            rw [List.toList_toArray]
                            go_big_quiet_want
                            go_big_quiet_op
                            go_big_quiet_on
                            go_big_quiet_want
                            apply Exists.intro
                            refine ⟨fun u hu => ?_, ?_⟩
                            · obtain ⟨hu0, hu1⟩ := hu
                              unfold Oper.quietAt
                              go_simp
                              try rfl
                            simp only [Act.put, List.setIfInBounds_toArray, List.set_cons_zero, List.set_cons_succ]
                            go_big_quiet_on
                            go_big_quiet_want
                            go_big_quiet_op
                            go_big_quiet_on
                            go_big_quiet_want
                            go_big_quiet_op
                            go_big_quiet_on
                            go_big_quiet_want
                            go_big_quiet_op
                            go_big_quiet_on
                            go_big_quiet_want
                            apply Exists.intro
                            refine ⟨fun u hu => ?_, ?_⟩
                            · obtain ⟨hu0, hu1⟩ := hu
                              unfold Oper.quietAt
                              go_simp
                              try rfl
                            simp only [Act.put, List.setIfInBounds_toArray, List.set_cons_zero, List.set_cons_succ]
                            go_big_quiet_on
                            go_big_quiet_want
                            apply Exists.intro
                            refine ⟨fun u hu => ?_, ?_⟩
                            · obtain ⟨hu0, hu1⟩ := hu
                              unfold Oper.quietAt
                              go_simp
                              try rfl
                            simp only [Act.put, List.setIfInBounds_toArray, List.set_cons_zero, List.set_cons_succ]
                            go_big_quiet_on
                            go_big_quiet_want
                            go_big_quiet_op
                            go_big_quiet_on
                            repeat go_big_quiet_skip
                            go_big_quiet_want
                            apply Exists.intro
                            refine ⟨fun u hu => ?_, ?_⟩
                            · obtain ⟨hu0, hu1⟩ := hu
                              unfold Oper.quietAt
                              go_simp
                              try rfl
                            simp only [Act.put, List.setIfInBounds_toArray, List.set_cons_zero, List.set_cons_succ]
                            go_big_quiet_on
                            refine wpQuiet_nil ?_
                            rintro u3 ⟨k8, _⟩
                            go_wp2_with fail
                            go_ret
                            exact ⟨ret_b HV.out.symm, hb4.trans (k8.mono hsz4)⟩
                          · have jk : ((j : Int) == (k : Int)) = false := by simp; omega
                            have hJs := hs.out _ (List.getElem_mem hj)
                            obtain ⟨ad', p2, e2, hp2, hab2, Ak, ck, t0, t1, t2, t3, t4, t5, _, _, hrk⟩ := hri.at_ hj
                            injection e2 with e2
                            subst e2
                            have HMA := Lib.hid (mu_some (i := k) HF0.out hjk hj HG.out)
                            obtain ⟨y, hy⟩ : ∃ y, y = X[j] := ⟨_, rfl⟩
                            rw [← hy] at t0 t5 hrk hJs HMA
                            obtain ⟨mj, hmj⟩ : ∃ m, y.met.length = m := ⟨_, rfl⟩
                            rw [hmj] at t5 hJs
                            have HMJ := Lib.hid hmj
                            obtain ⟨ca, hca⟩ : ∃ ca : Int, ((y.met.count x.id : Nat) : Int) = ca := ⟨_, rfl⟩
                            obtain ⟨cb, hcb⟩ : ∃ cb : Int, ((x.met.count y.id : Nat) : Int) = cb := ⟨_, rfl⟩
                            have HCA := Lib.hid hca
                            have HCB := Lib.hid hcb
                            have HMC := Lib.hid (show muAt X k z = decide (ca = cb) by rw [HMA.out, ← hca, ← hcb]; exact mu_cast)
                            clear hy hmj hca hcb hjk
                            by_cases hcc : ca = cb
                            · have HP := Lib.hid (HSN.out (HMC.out.trans (decide_eq_true hcc)))
                              have hcn : (ca != cb) = false := by simp [hcc]
                              clear hcc
                              have KE := fun (v : World) (q : Below wr.heap.size wr v) => show Below wr.heap.size wr v ∧ v.cell? ⟨G, 0, none⟩ = some (.int .i64 x.id) ∧ v.cell? ⟨G, 5, none⟩ = some (.slice (some aj) m9 cj) ∧ v.cell? p2 = some (.int .i64 y.id) ∧ v.cell? ⟨p2.block, p2.off + 5, none⟩ = some (.slice Ak mj ck) from ⟨q, nwc5 q e0, nwc5 q e5, nwc5 q t0, nwc5 q t5⟩
                              go_wp2_with fail
                              refine (specFindTeam_any hl (by omega) hri).mono ?_
                              rintro e u1 ⟨rfl, rfl⟩
                              rw [HF.out]
                              go_wp2_with fail
                              refine wp_region_quiet (C := fun v => Below wr.heap.size wr v ∧ v.cell? ⟨G, 0, none⟩ = some (.int .i64 x.id) ∧ v.cell? ⟨G, 5, none⟩ = some (.slice (some aj) m9 cj) ∧ v.cell? p2 = some (.int .i64 y.id) ∧ v.cell? ⟨p2.block, p2.off + 5, none⟩ = some (.slice Ak mj ck)) (by kernel_rfl) (by kernel_rfl) (KE _ (Below.refl wr.heap.size wr).drew) ?_
                              rw [List.toList_toArray]
                              go_big_quiet_want
                              go_big_quiet_op
                              go_big_quiet_on
                              go_big_quiet_want
                              apply Exists.intro
                              refine ⟨fun u hu => ?_, ?_⟩
                              · obtain ⟨hu0, hu1, hu2, hu3, hu4⟩ := hu
                                unfold Oper.quietAt
                                go_simp
                                try rfl
                              simp only [Act.put, List.setIfInBounds_toArray, List.set_cons_zero, List.set_cons_succ]
                              go_big_quiet_on
                              go_big_quiet_want
                              go_big_quiet_op
                              go_big_quiet_on
                              go_big_quiet_want
                              go_big_quiet_op
                              go_big_quiet_on
                              go_big_quiet_want
                              go_big_quiet_op
                              go_big_quiet_on
                              go_big_quiet_want
                              apply Exists.intro
                              refine ⟨fun u hu => ?_, ?_⟩
                              · obtain ⟨hu0, hu1, hu2, hu3, hu4⟩ := hu
                                unfold Oper.quietAt
                                go_simp
                                try rfl
                              simp only [Act.put, List.setIfInBounds_toArray, List.set_cons_zero, List.set_cons_succ]
                              go_big_quiet_on
                              go_big_quiet_want
                              apply Exists.intro
                              refine ⟨fun u hu => ?_, ?_⟩
                              · obtain ⟨hu0, hu1, hu2, hu3, hu4⟩ := hu
                                unfold Oper.quietAt
                                go_simp
                                try rfl
                              simp only [Act.put, List.setIfInBounds_toArray, List.set_cons_zero, List.set_cons_succ]
                              go_big_quiet_on
                              go_big_quiet_want
                              go_big_quiet_op
                              go_big_quiet_on
                              go_big_quiet_want
                              go_big_quiet_op
                              go_big_quiet_on
                              go_big_quiet_want
                              go_big_quiet_op
                              go_big_quiet_on
                              go_big_quiet_want
                              apply Exists.intro
                              refine ⟨fun u hu => ?_, ?_⟩
                              · obtain ⟨hu0, hu1, hu2, hu3, hu4⟩ := hu
                                unfold Oper.quietAt
                                go_simp
                                try rfl
                              simp only [Act.put, List.setIfInBounds_toArray, List.set_cons_zero, List.set_cons_succ]
                              go_big_quiet_on
                              go_big_quiet_want
                              apply Exists.intro
                              refine ⟨fun u hu => ?_, ?_⟩
                              · obtain ⟨hu0, hu1, hu2, hu3, hu4⟩ := hu
                                unfold Oper.quietAt
                                go_simp
                                try rfl
                              simp only [Act.put, List.setIfInBounds_toArray, List.set_cons_zero, List.set_cons_succ]
                              go_big_quiet_on
                              go_big_quiet_want
                              apply Exists.intro
                              refine ⟨fun u hu => ?_, ?_⟩
                              · obtain ⟨hu0, hu1, hu2, hu3, hu4⟩ := hu
                                unfold Oper.quietAt
                                go_simp
                                try rfl
                              simp only [Act.put, List.setIfInBounds_toArray, List.set_cons_zero, List.set_cons_succ]
                              go_big_quiet_on
                              go_big_quiet_want
                              apply Exists.intro
                              refine ⟨fun u hu => ?_, ?_⟩
                              · obtain ⟨hu0, hu1, hu2, hu3, hu4⟩ := hu
                                unfold Oper.quietAt
                                go_simp
                                try rfl
                              simp only [Act.put, List.setIfInBounds_toArray, List.set_cons_zero, List.set_cons_succ]
                              go_big_quiet_on
                              go_big_quiet_want
                              apply Exists.intro
                              refine ⟨fun u hu => ?_, ?_⟩
                              · obtain ⟨hu0, hu1, hu2, hu3, hu4⟩ := hu
                                unfold Oper.quietAt
                                go_simp
                                try rfl
                              simp only [Act.put, List.setIfInBounds_toArray, List.set_cons_zero, List.set_cons_succ]
                              go_big_quiet_on
                              go_big_quiet_want
                              refine ⟨.int .i64 ca, fun u hu => ?_, ?_⟩
                              · obtain ⟨hu0, hu1, hu2, hu3, hu4⟩ := hu
                                unfold Oper.quietAt
                                go_simp
                                refine (l19Count_any (S := y.met) HMJ (by omega) ((hrk.below hu0).more hu0.size)).mono ?_
                                rintro e u9 ⟨he, rfl⟩
                                rw [HCA.out] at he
                                exact ⟨he, KE _ hu0⟩
                              simp only [Act.put, List.setIfInBounds_toArray, List.set_cons_zero, List.set_cons_succ]
                              go_big_quiet_on
                              go_big_quiet_want
                              apply Exists.intro
                              refine ⟨fun u hu => ?_, ?_⟩
                              · obtain ⟨hu0, hu1, hu2, hu3, hu4⟩ := hu
                                unfold Oper.quietAt
                                go_simp
                                try rfl
                              simp only [Act.put, List.setIfInBounds_toArray, List.set_cons_zero, List.set_cons_succ]
                              go_big_quiet_on
                              go_big_quiet_want
                              apply Exists.intro
                              refine ⟨fun u hu => ?_, ?_⟩
                              · obtain ⟨hu0, hu1, hu2, hu3, hu4⟩ := hu
                                unfold Oper.quietAt
                                go_simp
                                try rfl
                              simp only [Act.put, List.setIfInBounds_toArray, List.set_cons_zero, List.set_cons_succ]
                              go_big_quiet_on
                              go_big_quiet_want
                              go_big_quiet_op
                              go_big_quiet_on
                              go_big_quiet_want
                              go_big_quiet_op
                              go_big_quiet_on
                              go_big_quiet_want
                              apply Exists.intro
                              refine ⟨fun u hu => ?_, ?_⟩
                              · obtain ⟨hu0, hu1, hu2, hu3, hu4⟩ := hu
                                unfold Oper.quietAt
                                go_simp
                                try rfl
                              simp only [Act.put, List.setIfInBounds_toArray, List.set_cons_zero, List.set_cons_succ]
                              go_big_quiet_on
                              go_big_quiet_want
                              apply Exists.intro
                              refine ⟨fun u hu => ?_, ?_⟩
                              · obtain ⟨hu0, hu1, hu2, hu3, hu4⟩ := hu
                                unfold Oper.quietAt
                                go_simp
                                try rfl
                              simp only [Act.put, List.setIfInBounds_toArray, List.set_cons_zero, List.set_cons_succ]
                              go_big_quiet_on
                              go_big_quiet_want
                              apply Exists.intro
                              refine ⟨fun u hu => ?_, ?_⟩
                              · obtain ⟨hu0, hu1, hu2, hu3, hu4⟩ := hu
                                unfold Oper.quietAt
                                go_simp
                                try rfl
                              simp only [Act.put, List.setIfInBounds_toArray, List.set_cons_zero, List.set_cons_succ]
                              go_big_quiet_on
                              go_big_quiet_want
                              refine ⟨.int .i64 cb, fun u hu => ?_, ?_⟩
                              · obtain ⟨hu0, hu1, hu2, hu3, hu4⟩ := hu
                                unfold Oper.quietAt
                                go_simp
                                refine (l19Count_any (S := x.met) HM9 (by omega) ((hrji.below hu0).more hu0.size)).mono ?_
                                rintro e u9 ⟨he, rfl⟩
                                rw [HCB.out] at he
                                exact ⟨he, KE _ hu0⟩
                              simp only [Act.put, List.setIfInBounds_toArray, List.set_cons_zero, List.set_cons_succ]
                              go_big_quiet_on
                              go_big_quiet_want
                              apply Exists.intro
                              refine ⟨fun u hu => ?_, ?_⟩
                              · obtain ⟨hu0, hu1, hu2, hu3, hu4⟩ := hu
                                unfold Oper.quietAt
                                go_simp
                                try rfl
                              simp only [Act.put, List.setIfInBounds_toArray, List.set_cons_zero, List.set_cons_succ]
                              go_big_quiet_on
                              go_big_quiet_want
                              apply Exists.intro
                              refine ⟨fun u hu => ?_, ?_⟩
                              · obtain ⟨hu0, hu1, hu2, hu3, hu4⟩ := hu
                                unfold Oper.quietAt
                                go_simp
                                try rfl
                              simp only [Act.put, List.setIfInBounds_toArray, List.set_cons_zero, List.set_cons_succ]
                              go_big_quiet_on
                              refine wpQuiet_nil ?_
                              rintro u3 ⟨k8, _⟩
                              go_wp2_with fail
                              go_roundw
                              case rel => exact ⟨m + 1, by omega, by go_num, HP, hb3.trans (k8.mono hb3.size)⟩
                              case measure => simp [intOf]; omega
                            · have HV := Lib.hid (HMN.out (HMC.out.trans (decide_eq_false hcc)))
                              have hcn : (ca != cb) = true := by simpa using hcc
                              clear hcc
                              have KE := fun (v : World) (q : Below wr.heap.size wr v) => show Below wr.heap.size wr v ∧ v.cell? ⟨G, 0, none⟩ = some (.int .i64 x.id) ∧ v.cell? ⟨G, 5, none⟩ = some (.slice (some aj) m9 cj) ∧ v.cell? p2 = some (.int .i64 y.id) ∧ v.cell? ⟨p2.block, p2.off + 5, none⟩ = some (.slice Ak mj ck) from ⟨q, nwc5 q e0, nwc5 q e5, nwc5 q t0, nwc5 q t5⟩
                              go_wp2_with fail
                              refine (specFindTeam_any hl (by omega) hri).mono ?_
                              rintro e u1 ⟨rfl, rfl⟩
                              rw [HF.out]
                              go_wp2_with fail
                              refine wp_region_quiet (C := fun v => Below wr.heap.size wr v ∧ v.cell? ⟨G, 0, none⟩ = some (.int .i64 x.id) ∧ v.cell? ⟨G, 5, none⟩ = some (.slice (some aj) m9 cj) ∧ v.cell? p2 = some (.int .i64 y.id) ∧ v.cell? ⟨p2.block, p2.off + 5, none⟩ = some (.slice Ak mj ck)) (by kernel_rfl) (by kernel_rfl) (KE _ (Below.refl wr.heap.size wr).drew) ?_
                              rw [List.toList_toArray]
                              go_big_quiet_want
                              go_big_quiet_op
                              go_big_quiet_on
                              go_big_quiet_want
                              apply Exists.intro
                              refine ⟨fun u hu => ?_, ?_⟩
                              · obtain ⟨hu0, hu1, hu2, hu3, hu4⟩ := hu
                                unfold Oper.quietAt
                                go_simp
                                try rfl
                              simp only [Act.put, List.setIfInBounds_toArray, List.set_cons_zero, List.set_cons_succ]
                              go_big_quiet_on
                              go_big_quiet_want
                              go_big_quiet_op
                              go_big_quiet_on
                              go_big_quiet_want
                              go_big_quiet_op
                              go_big_quiet_on
                              go_big_quiet_want
                              go_big_quiet_op
                              go_big_quiet_on
                              go_big_quiet_want
                              apply Exists.intro
                              refine ⟨fun u hu => ?_, ?_⟩
                              · obtain ⟨hu0, hu1, hu2, hu3, hu4⟩ := hu
                                unfold Oper.quietAt
                                go_simp
                                try rfl
                              simp only [Act.put, List.setIfInBounds_toArray, List.set_cons_zero, List.set_cons_succ]
                              go_big_quiet_on
                              go_big_quiet_want
                              apply Exists.intro
                              refine ⟨fun u hu => ?_, ?_⟩
                              · obtain ⟨hu0, hu1, hu2, hu3, hu4⟩ := hu
                                unfold Oper.quietAt
                                go_simp
                                try rfl
                              simp only [Act.put, List.setIfInBounds_toArray, List.set_cons_zero, List.set_cons_succ]
                              go_big_quiet_on
                              go_big_quiet_want
                              go_big_quiet_op
                              go_big_quiet_on
                              go_big_quiet_want
                              go_big_quiet_op
                              go_big_quiet_on
                              go_big_quiet_want
                              go_big_quiet_op
                              go_big_quiet_on
                              go_big_quiet_want
                              apply Exists.intro
                              refine ⟨fun u hu => ?_, ?_⟩
                              · obtain ⟨hu0, hu1, hu2, hu3, hu4⟩ := hu
                                unfold Oper.quietAt
                                go_simp
                                try rfl
                              simp only [Act.put, List.setIfInBounds_toArray, List.set_cons_zero, List.set_cons_succ]
                              go_big_quiet_on
                              go_big_quiet_want
                              apply Exists.intro
                              refine ⟨fun u hu => ?_, ?_⟩
                              · obtain ⟨hu0, hu1, hu2, hu3, hu4⟩ := hu
                                unfold Oper.quietAt
                                go_simp
                                try rfl
                              simp only [Act.put, List.setIfInBounds_toArray, List.set_cons_zero, List.set_cons_succ]
                              go_big_quiet_on
                              go_big_quiet_want
                              apply Exists.intro
                              refine ⟨fun u hu => ?_, ?_⟩
                              · obtain ⟨hu0, hu1, hu2, hu3, hu4⟩ := hu
                                unfold Oper.quietAt
                                go_simp
                                try rfl
                              simp only [Act.put, List.setIfInBounds_toArray, List.set_cons_zero, List.set_cons_succ]
                              go_big_quiet_on
                              go_big_quiet_want
                              apply Exists.intro
                              refine ⟨fun u hu => ?_, ?_⟩
                              · obtain ⟨hu0, hu1, hu2, hu3, hu4⟩ := hu
                                unfold Oper.quietAt
                                go_simp
                                try rfl
                              simp only [Act.put, List.setIfInBounds_toArray, List.set_cons_zero, List.set_cons_succ]
                              go_big_quiet_on
                              go_big_quiet_want
                              apply Exists.intro
                              refine ⟨fun u hu => ?_, ?_⟩
                              · obtain ⟨hu0, hu1, hu2, hu3, hu4⟩ := hu
                                unfold Oper.quietAt
                                go_simp
                                try rfl
                              simp only [Act.put, List.setIfInBounds_toArray, List.set_cons_zero, List.set_cons_succ]
                              go_big_quiet_on
                              go_big_quiet_want
                              refine ⟨.int .i64 ca, fun u hu => ?_, ?_⟩
                              · obtain ⟨hu0, hu1, hu2, hu3, hu4⟩ := hu
                                unfold Oper.quietAt
                                go_simp
                                refine (l19Count_any (S := y.met) HMJ (by omega) ((hrk.below hu0).more hu0.size)).mono ?_
                                rintro e u9 ⟨he, rfl⟩
                                rw [HCA.out] at he
                                exact ⟨he, KE _ hu0⟩
                              simp only [Act.put, List.setIfInBounds_toArray, List.set_cons_zero, List.set_cons_succ]
                              go_big_quiet_on
                              go_big_quiet_want
                              apply Exists.intro
                              refine ⟨fun u hu => ?_, ?_⟩
                              · obtain ⟨hu0, hu1, hu2, hu3, hu4⟩ := hu
                                unfold Oper.quietAt
                                go_simp
                                try rfl
                              simp only [Act.put, List.setIfInBounds_toArray, List.set_cons_zero, List.set_cons_succ]
                              go_big_quiet_on
                              go_big_quiet_want
                              apply Exists.intro
                              refine ⟨fun u hu => ?_, ?_⟩
                              · obtain ⟨hu0, hu1, hu2, hu3, hu4⟩ := hu
                                unfold Oper.quietAt
                                go_simp
                                try rfl
                              simp only [Act.put, List.setIfInBounds_toArray, List.set_cons_zero, List.set_cons_succ]
                              go_big_quiet_on
                              go_big_quiet_want
                              go_big_quiet_op
                              go_big_quiet_on
                              go_big_quiet_want
                              go_big_quiet_op
                              go_big_quiet_on
                              go_big_quiet_want
                              apply Exists.intro
                              refine ⟨fun u hu => ?_, ?_⟩
                              · obtain ⟨hu0, hu1, hu2, hu3, hu4⟩ := hu
                                unfold Oper.quietAt
                                go_simp
                                try rfl
                              simp only [Act.put, List.setIfInBounds_toArray, List.set_cons_zero, List.set_cons_succ]
                              go_big_quiet_on
                              go_big_quiet_want
                              apply Exists.intro
                              refine ⟨fun u hu => ?_, ?_⟩
                              · obtain ⟨hu0, hu1, hu2, hu3, hu4⟩ := hu
                                unfold Oper.quietAt
                                go_simp
                                try rfl
                              simp only [Act.put, List.setIfInBounds_toArray, List.set_cons_zero, List.set_cons_succ]
                              go_big_quiet_on
                              go_big_quiet_want
                              apply Exists.intro
                              refine ⟨fun u hu => ?_, ?_⟩
                              · obtain ⟨hu0, hu1, hu2, hu3, hu4⟩ := hu
                                unfold Oper.quietAt
                                go_simp
                                try rfl
                              simp only [Act.put, List.setIfInBounds_toArray, List.set_cons_zero, List.set_cons_succ]
                              go_big_quiet_on
                              go_big_quiet_want
                              refine ⟨.int .i64 cb, fun u hu => ?_, ?_⟩
                              · obtain ⟨hu0, hu1, hu2, hu3, hu4⟩ := hu
                                unfold Oper.quietAt
                                go_simp
                                refine (l19Count_any (S := x.met) HM9 (by omega) ((hrji.below hu0).more hu0.size)).mono ?_
                                rintro e u9 ⟨he, rfl⟩
                                rw [HCB.out] at he
                                exact ⟨he, KE _ hu0⟩
                              simp only [Act.put, List.setIfInBounds_toArray, List.set_cons_zero, List.set_cons_succ]
                              go_big_quiet_on
                              go_big_quiet_want
                              apply Exists.intro
                              refine ⟨fun u hu => ?_, ?_⟩
                              · obtain ⟨hu0, hu1, hu2, hu3, hu4⟩ := hu
                                unfold Oper.quietAt
                                go_simp
                                try rfl
                              simp only [Act.put, List.setIfInBounds_toArray, List.set_cons_zero, List.set_cons_succ]
                              go_big_quiet_on
                              go_big_quiet_want
                              apply Exists.intro
                              refine ⟨fun u hu => ?_, ?_⟩
                              · obtain ⟨hu0, hu1, hu2, hu3, hu4⟩ := hu
                                unfold Oper.quietAt
                                go_simp
                                try rfl
                              simp only [Act.put, List.setIfInBounds_toArray, List.set_cons_zero, List.set_cons_succ]
                              go_big_quiet_on
                              refine wpQuiet_nil ?_
                              rintro u3 ⟨k8, _⟩
                              go_wp2_with fail
                              go_ret
                              exact ⟨ret_b HV.out.symm, hb4.trans (k8.mono hsz4)⟩
                      · have e : m = m9 := by omega
                        subst e
                        have HP := Lib.hid (te_snoc ha.out (atAt_y HG.out HOK.out HTP.out (mu_end HM9.out hma.out)))
                        go_wp2_with fail
                        go_roundw
                        case rel => exact ⟨k + 1, by omega, by go_num, HP, hb4⟩
                        case measure => simp [intOf]; omega
                  · have HV := Lib.hid (HNO.out (atAt_a (HA.out.trans (decide_eq_false hxy))))
                    have d1 : decide (x.id ≤ y.id) = true := decide_eq_true (by omega)
                    have KE := fun (u : World) (q : Below W2.heap.size W2 u) => show Below W2.heap.size W2 u ∧ u.cell? ⟨G, 0, none⟩ = some (.int .i64 x.id) ∧ u.cell? ⟨G, 1, none⟩ = some (.int .i64 x.club) ∧ u.cell? ⟨G, 2, none⟩ = some (.int .i64 x.wins) ∧ u.cell? ⟨G, 3, none⟩ = some (.int .i64 x.pts) ∧ u.cell? ⟨G, 4, none⟩ = some (.int .i64 x.firsts) ∧ u.cell? ⟨G, 5, none⟩ = some (.slice Aj m9 cj) ∧ u.cell? p' = some (.int .i64 y.id) from ⟨q, nwc5 q c0, nwc5 q c1, nwc5 q c2, nwc5 q c3, nwc5 q c4, nwc5 q c5, nwc5 q g0⟩
                    go_wp2_with fail
                    rw [HW2.out]
                    try (go_wp2_with fail)
                    refine wp_region_quiet (C := fun u => Below W2.heap.size W2 u ∧ u.cell? ⟨G, 0, none⟩ = some (.int .i64 x.id) ∧ u.cell? ⟨G, 1, none⟩ = some (.int .i64 x.club) ∧ u.cell? ⟨G, 2, none⟩ = some (.int .i64 x.wins) ∧ u.cell? ⟨G, 3, none⟩ = some (.int .i64 x.pts) ∧ u.cell? ⟨G, 4, none⟩ = some (.int .i64 x.firsts) ∧ u.cell? ⟨G, 5, none⟩ = some (.slice Aj m9 cj) ∧ u.cell? p' = some (.int .i64 y.id)) (by kernel_rfl) (by kernel_rfl) (KE _ (Below.refl W2.heap.size W2).drew) ?_
                    rw [List.toList_toArray]
                    go_big_quiet_want
                    apply Exists.intro
                    refine ⟨fun u hu => ?_, ?_⟩
                    · obtain ⟨hu0, hu1, hu2, hu3, hu4, hu5, hu6, hu7⟩ := hu
                      unfold Oper.quietAt
                      go_simp
                      try rfl
                    simp only [Act.put, List.setIfInBounds_toArray, List.set_cons_zero, List.set_cons_succ]
                    go_big_quiet_on
                    go_big_quiet_want
                    apply Exists.intro
                    refine ⟨fun u hu => ?_, ?_⟩
                    · obtain ⟨hu0, hu1, hu2, hu3, hu4, hu5, hu6, hu7⟩ := hu
                      unfold Oper.quietAt
                      go_simp
                      try rfl
                    simp only [Act.put, List.setIfInBounds_toArray, List.set_cons_zero, List.set_cons_succ]
                    go_big_quiet_on
                    go_big_quiet_want
                    refine ⟨.bool true, fun u hu => ?_, ?_⟩
                    · obtain ⟨hu0, hu1, hu2, hu3, hu4, hu5, hu6, hu7⟩ := hu
                      unfold Oper.quietAt
                      go_simp
                      refine (l1In_any _ _ _ _).mono ?_
                      rintro e u9 ⟨he, rfl⟩
                      rw [H1.out] at he
                      exact ⟨he, KE _ hu0⟩
                    simp only [Act.put, List.setIfInBounds_toArray, List.set_cons_zero, List.set_cons_succ]
                    go_big_quiet_on
                    go_big_quiet_want
                    apply Exists.intro
                    refine ⟨fun u hu => ?_, ?_⟩
                    · obtain ⟨hu0, hu1, hu2, hu3, hu4, hu5, hu6, hu7⟩ := hu
                      unfold Oper.quietAt
                      go_simp
                      try rfl
                    simp only [Act.put, List.setIfInBounds_toArray, List.set_cons_zero, List.set_cons_succ]
                    go_big_quiet_on
                    go_big_quiet_want
                    go_big_quiet_op
                    go_big_quiet_on
                    go_big_quiet_want
                    apply Exists.intro
                    refine ⟨fun u hu => ?_, ?_⟩
                    · obtain ⟨hu0, hu1, hu2, hu3, hu4, hu5, hu6, hu7⟩ := hu
                      unfold Oper.quietAt
                      go_simp
                      try rfl
                    simp only [Act.put, List.setIfInBounds_toArray, List.set_cons_zero, List.set_cons_succ]
                    go_big_quiet_on
                    go_big_quiet_want
                    apply Exists.intro
                    refine ⟨fun u hu => ?_, ?_⟩
                    · obtain ⟨hu0, hu1, hu2, hu3, hu4, hu5, hu6, hu7⟩ := hu
                      unfold Oper.quietAt
                      go_simp
                      try rfl
                    simp only [Act.put, List.setIfInBounds_toArray, List.set_cons_zero, List.set_cons_succ]
                    go_big_quiet_on
                    go_big_quiet_want
                    refine ⟨.bool true, fun u hu => ?_, ?_⟩
                    · obtain ⟨hu0, hu1, hu2, hu3, hu4, hu5, hu6, hu7⟩ := hu
                      unfold Oper.quietAt
                      go_simp
                      refine (l1In_any _ _ _ _).mono ?_
                      rintro e u9 ⟨he, rfl⟩
                      rw [H2.out] at he
                      exact ⟨he, KE _ hu0⟩
                    simp only [Act.put, List.setIfInBounds_toArray, List.set_cons_zero, List.set_cons_succ]
                    go_big_quiet_on
                    go_big_quiet_want
                    apply Exists.intro
                    refine ⟨fun u hu => ?_, ?_⟩
                    · obtain ⟨hu0, hu1, hu2, hu3, hu4, hu5, hu6, hu7⟩ := hu
                      unfold Oper.quietAt
                      go_simp
                      try rfl
                    simp only [Act.put, List.setIfInBounds_toArray, List.set_cons_zero, List.set_cons_succ]
                    go_big_quiet_on
                    go_big_quiet_want
                    apply Exists.intro
                    refine ⟨fun u hu => ?_, ?_⟩
                    · obtain ⟨hu0, hu1, hu2, hu3, hu4, hu5, hu6, hu7⟩ := hu
                      unfold Oper.quietAt
                      go_simp
                      try rfl
                    simp only [Act.put, List.setIfInBounds_toArray, List.set_cons_zero, List.set_cons_succ]
                    go_big_quiet_on
                    go_big_quiet_want
                    go_big_quiet_op
                    go_big_quiet_on
                    go_big_quiet_want
                    apply Exists.intro
                    refine ⟨fun u hu => ?_, ?_⟩
                    · obtain ⟨hu0, hu1, hu2, hu3, hu4, hu5, hu6, hu7⟩ := hu
                      unfold Oper.quietAt
                      go_simp
                      try rfl
                    simp only [Act.put, List.setIfInBounds_toArray, List.set_cons_zero, List.set_cons_succ]
                    go_big_quiet_on
                    go_big_quiet_want
                    apply Exists.intro
                    refine ⟨fun u hu => ?_, ?_⟩
                    · obtain ⟨hu0, hu1, hu2, hu3, hu4, hu5, hu6, hu7⟩ := hu
                      unfold Oper.quietAt
                      go_simp
                      try rfl
                    simp only [Act.put, List.setIfInBounds_toArray, List.set_cons_zero, List.set_cons_succ]
                    go_big_quiet_on
                    go_big_quiet_want
                    apply Exists.intro
                    refine ⟨fun u hu => ?_, ?_⟩
                    · obtain ⟨hu0, hu1, hu2, hu3, hu4, hu5, hu6, hu7⟩ := hu
                      unfold Oper.quietAt
                      go_simp
                      try rfl
                    simp only [Act.put, List.setIfInBounds_toArray, List.set_cons_zero, List.set_cons_succ]
                    go_big_quiet_on
                    go_big_quiet_want
                    apply Exists.intro
                    refine ⟨fun u hu => ?_, ?_⟩
                    · obtain ⟨hu0, hu1, hu2, hu3, hu4, hu5, hu6, hu7⟩ := hu
                      unfold Oper.quietAt
                      go_simp
                      try rfl
                    simp only [Act.put, List.setIfInBounds_toArray, List.set_cons_zero, List.set_cons_succ]
                    go_big_quiet_on
                    go_big_quiet_want
                    apply Exists.intro
                    refine ⟨fun u hu => ?_, ?_⟩
                    · obtain ⟨hu0, hu1, hu2, hu3, hu4, hu5, hu6, hu7⟩ := hu
                      unfold Oper.quietAt
                      go_simp
                      try rfl
                    simp only [Act.put, List.setIfInBounds_toArray, List.set_cons_zero, List.set_cons_succ]
                    go_big_quiet_on
                    go_big_quiet_want
                    refine ⟨.bool true, fun u hu => ?_, ?_⟩
                    · obtain ⟨hu0, hu1, hu2, hu3, hu4, hu5, hu6, hu7⟩ := hu
                      unfold Oper.quietAt
                      go_simp
                      refine (l1In_any _ _ _ _).mono ?_
                      rintro e u9 ⟨he, rfl⟩
                      rw [H3.out] at he
                      exact ⟨he, KE _ hu0⟩
                    simp only [Act.put, List.setIfInBounds_toArray, List.set_cons_zero, List.set_cons_succ]
                    go_big_quiet_on
                    go_big_quiet_want
                    apply Exists.intro
                    refine ⟨fun u hu => ?_, ?_⟩
                    · obtain ⟨hu0, hu1, hu2, hu3, hu4, hu5, hu6, hu7⟩ := hu
                      unfold Oper.quietAt
                      go_simp
                      try rfl
                    simp only [Act.put, List.setIfInBounds_toArray, List.set_cons_zero, List.set_cons_succ]
                    go_big_quiet_on
                    go_big_quiet_want
                    apply Exists.intro
                    refine ⟨fun u hu => ?_, ?_⟩
                    · obtain ⟨hu0, hu1, hu2, hu3, hu4, hu5, hu6, hu7⟩ := hu
                      unfold Oper.quietAt
                      go_simp
                      try rfl
                    simp only [Act.put, List.setIfInBounds_toArray, List.set_cons_zero, List.set_cons_succ]
                    go_big_quiet_on
                    go_big_quiet_want
                    go_big_quiet_op
                    go_big_quiet_on
                    go_big_quiet_want
                    apply Exists.intro
                    refine ⟨fun u hu => ?_, ?_⟩
                    · obtain ⟨hu0, hu1, hu2, hu3, hu4, hu5, hu6, hu7⟩ := hu
                      unfold Oper.quietAt
                      go_simp
                      try rfl
                    simp only [Act.put, List.setIfInBounds_toArray, List.set_cons_zero, List.set_cons_succ]
                    go_big_quiet_on
                    go_big_quiet_want
                    apply Exists.intro
                    refine ⟨fun u hu => ?_, ?_⟩
                    · obtain ⟨hu0, hu1, hu2, hu3, hu4, hu5, hu6, hu7⟩ := hu
                      unfold Oper.quietAt
                      go_simp
                      try rfl
                    simp only [Act.put, List.setIfInBounds_toArray, List.set_cons_zero, List.set_cons_succ]
                    go_big_quiet_on
                    go_big_quiet_want
                    apply Exists.intro
                    refine ⟨fun u hu => ?_, ?_⟩
                    · obtain ⟨hu0, hu1, hu2, hu3, hu4, hu5, hu6, hu7⟩ := hu
                      unfold Oper.quietAt
                      go_simp
                      try rfl
                    simp only [Act.put, List.setIfInBounds_toArray, List.set_cons_zero, List.set_cons_succ]
                    go_big_quiet_on
                    go_big_quiet_want
                    apply Exists.intro
                    refine ⟨fun u hu => ?_, ?_⟩
                    · obtain ⟨hu0, hu1, hu2, hu3, hu4, hu5, hu6, hu7⟩ := hu
                      unfold Oper.quietAt
                      go_simp
                      try rfl
                    simp only [Act.put, List.setIfInBounds_toArray, List.set_cons_zero, List.set_cons_succ]
                    go_big_quiet_on
                    go_big_quiet_want
                    apply Exists.intro
                    refine ⟨fun u hu => ?_, ?_⟩
                    · obtain ⟨hu0, hu1, hu2, hu3, hu4, hu5, hu6, hu7⟩ := hu
                      unfold Oper.quietAt
                      go_simp
                      try rfl
                    simp only [Act.put, List.setIfInBounds_toArray, List.set_cons_zero, List.set_cons_succ]
                    go_big_quiet_on
                    go_big_quiet_want
                    refine ⟨.bool true, fun u hu => ?_, ?_⟩
                    · obtain ⟨hu0, hu1, hu2, hu3, hu4, hu5, hu6, hu7⟩ := hu
                      unfold Oper.quietAt
                      go_simp
                      refine (l1In_any _ _ _ _).mono ?_
                      rintro e u9 ⟨he, rfl⟩
                      rw [H4.out] at he
                      exact ⟨he, KE _ hu0⟩
                    simp only [Act.put, List.setIfInBounds_toArray, List.set_cons_zero, List.set_cons_succ]
                    go_big_quiet_on
                    go_big_quiet_want
                    apply Exists.intro
                    refine ⟨fun u hu => ?_, ?_⟩
                    · obtain ⟨hu0, hu1, hu2, hu3, hu4, hu5, hu6, hu7⟩ := hu
                      unfold Oper.quietAt
                      go_simp
                      try rfl
                    simp only [Act.put, List.setIfInBounds_toArray, List.set_cons_zero, List.set_cons_succ]
                    go_big_quiet_on
                    go_big_quiet_want
                    apply Exists.intro
                    refine ⟨fun u hu => ?_, ?_⟩
                    · obtain ⟨hu0, hu1, hu2, hu3, hu4, hu5, hu6, hu7⟩ := hu
                      unfold Oper.quietAt
                      go_simp
                      try rfl
                    simp only [Act.put, List.setIfInBounds_toArray, List.set_cons_zero, List.set_cons_succ]
                    go_big_quiet_on
                    go_big_quiet_want
                    go_big_quiet_op
                    go_big_quiet_on
                    go_big_quiet_want
                    apply Exists.intro
                    refine ⟨fun u hu => ?_, ?_⟩
                    · obtain ⟨hu0, hu1, hu2, hu3, hu4, hu5, hu6, hu7⟩ := hu
                      unfold Oper.quietAt
                      go_simp
                      try rfl
                    simp only [Act.put, List.setIfInBounds_toArray, List.set_cons_zero, List.set_cons_succ]
                    go_big_quiet_on
                    go_big_quiet_want
                    apply Exists.intro
                    refine ⟨fun u hu => ?_, ?_⟩
                    · obtain ⟨hu0, hu1, hu2, hu3, hu4, hu5, hu6, hu7⟩ := hu
                      unfold Oper.quietAt
                      go_simp
                      try rfl
                    simp only [Act.put, List.setIfInBounds_toArray, List.set_cons_zero, List.set_cons_succ]
                    go_big_quiet_on
                    go_big_quiet_want
                    refine ⟨.bool true, fun u hu => ?_, ?_⟩
                    · obtain ⟨hu0, hu1, hu2, hu3, hu4, hu5, hu6, hu7⟩ := hu
                      unfold Oper.quietAt
                      go_simp
                      refine (l1In_any _ _ _ _).mono ?_
                      rintro e u9 ⟨he, rfl⟩
                      rw [H5.out] at he
                      exact ⟨he, KE _ hu0⟩
                    simp only [Act.put, List.setIfInBounds_toArray, List.set_cons_zero, List.set_cons_succ]
                    go_big_quiet_on
                    go_big_quiet_want
                    apply Exists.intro
                    refine ⟨fun u hu => ?_, ?_⟩
                    · obtain ⟨hu0, hu1, hu2, hu3, hu4, hu5, hu6, hu7⟩ := hu
                      unfold Oper.quietAt
                      go_simp
                      try rfl
                    simp only [Act.put, List.setIfInBounds_toArray, List.set_cons_zero, List.set_cons_succ]
                    go_big_quiet_on
                    go_big_quiet_want
                    apply Exists.intro
                    refine ⟨fun u hu => ?_, ?_⟩
                    · obtain ⟨hu0, hu1, hu2, hu3, hu4, hu5, hu6, hu7⟩ := hu
                      unfold Oper.quietAt
                      go_simp
                      try rfl
                    simp only [Act.put, List.setIfInBounds_toArray, List.set_cons_zero, List.set_cons_succ]
                    go_big_quiet_on
                    go_big_quiet_want
                    go_big_quiet_op
                    go_big_quiet_on
                    go_big_quiet_want
                    apply Exists.intro
                    refine ⟨fun u hu => ?_, ?_⟩
                    · obtain ⟨hu0, hu1, hu2, hu3, hu4, hu5, hu6, hu7⟩ := hu
                      unfold Oper.quietAt
                      go_simp
                      try rfl
                    simp only [Act.put, List.setIfInBounds_toArray, List.set_cons_zero, List.set_cons_succ]
                    go_big_quiet_on
                    go_big_quiet_want
                    apply Exists.intro
                    refine ⟨fun u hu => ?_, ?_⟩
                    · obtain ⟨hu0, hu1, hu2, hu3, hu4, hu5, hu6, hu7⟩ := hu
                      unfold Oper.quietAt
                      go_simp
                      try rfl
                    simp only [Act.put, List.setIfInBounds_toArray, List.set_cons_zero, List.set_cons_succ]
                    go_big_quiet_on
                    go_big_quiet_want
                    apply Exists.intro
                    refine ⟨fun u hu => ?_, ?_⟩
                    · obtain ⟨hu0, hu1, hu2, hu3, hu4, hu5, hu6, hu7⟩ := hu
                      unfold Oper.quietAt
                      go_simp
                      try rfl
                    simp only [Act.put, List.setIfInBounds_toArray, List.set_cons_zero, List.set_cons_succ]
                    go_big_quiet_on
                    go_big_quiet_want
                    apply Exists.intro
                    refine ⟨fun u hu => ?_, ?_⟩
                    · obtain ⟨hu0, hu1, hu2, hu3, hu4, hu5, hu6, hu7⟩ := hu
                      unfold Oper.quietAt
                      go_simp
                      try rfl
                    simp only [Act.put, List.setIfInBounds_toArray, List.set_cons_zero, List.set_cons_succ]
                    go_big_quiet_on
                    go_big_quiet_want
                    apply Exists.intro
                    refine ⟨fun u hu => ?_, ?_⟩
                    · obtain ⟨hu0, hu1, hu2, hu3, hu4, hu5, hu6, hu7⟩ := hu
                      unfold Oper.quietAt
                      go_simp
                      try rfl
                    simp only [Act.put, List.setIfInBounds_toArray, List.set_cons_zero, List.set_cons_succ]
                    go_big_quiet_on
                    go_big_quiet_want
                    go_big_quiet_op
                    go_big_quiet_on
                    go_big_quiet_want
                    go_big_quiet_op
                    go_big_quiet_on
                    go_big_quiet_want
                    apply Exists.intro
                    refine ⟨fun u hu => ?_, ?_⟩
                    · obtain ⟨hu0, hu1, hu2, hu3, hu4, hu5, hu6, hu7⟩ := hu
                      unfold Oper.quietAt
                      go_simp
                      try rfl
                    simp only [Act.put, List.setIfInBounds_toArray, List.set_cons_zero, List.set_cons_succ]
                    go_big_quiet_on
                    go_big_quiet_want
                    go_big_quiet_op
                    go_big_quiet_on
                    go_big_quiet_want
                    go_big_quiet_op
                    go_big_quiet_on
                    go_big_quiet_want
                    go_big_quiet_op
                    go_big_quiet_on
                    go_big_quiet_want
                    apply Exists.intro
                    refine ⟨fun u hu => ?_, ?_⟩
                    · obtain ⟨hu0, hu1, hu2, hu3, hu4, hu5, hu6, hu7⟩ := hu
                      unfold Oper.quietAt
                      go_simp
                      try rfl
                    simp only [Act.put, List.setIfInBounds_toArray, List.set_cons_zero, List.set_cons_succ]
                    go_big_quiet_on
                    go_big_quiet_want
                    apply Exists.intro
                    refine ⟨fun u hu => ?_, ?_⟩
                    · obtain ⟨hu0, hu1, hu2, hu3, hu4, hu5, hu6, hu7⟩ := hu
                      unfold Oper.quietAt
                      go_simp
                      try rfl
                    simp only [Act.put, List.setIfInBounds_toArray, List.set_cons_zero, List.set_cons_succ]
                    go_big_quiet_on
                    go_big_quiet_want
                    apply Exists.intro
                    refine ⟨fun u hu => ?_, ?_⟩
                    · obtain ⟨hu0, hu1, hu2, hu3, hu4, hu5, hu6, hu7⟩ := hu
                      unfold Oper.quietAt
                      go_simp
                      try rfl
                    simp only [Act.put, List.setIfInBounds_toArray, List.set_cons_zero, List.set_cons_succ]
                    go_big_quiet_on
                    go_big_quiet_want
                    apply Exists.intro
                    refine ⟨fun u hu => ?_, ?_⟩
                    · obtain ⟨hu0, hu1, hu2, hu3, hu4, hu5, hu6, hu7⟩ := hu
                      unfold Oper.quietAt
                      go_simp
                      try rfl
                    simp only [Act.put, List.setIfInBounds_toArray, List.set_cons_zero, List.set_cons_succ]
                    go_big_quiet_on
                    go_big_quiet_want
                    apply Exists.intro
                    refine ⟨fun u hu => ?_, ?_⟩
                    · obtain ⟨hu0, hu1, hu2, hu3, hu4, hu5, hu6, hu7⟩ := hu
                      unfold Oper.quietAt
                      go_simp
                      try rfl
                    simp only [Act.put, List.setIfInBounds_toArray, List.set_cons_zero, List.set_cons_succ]
                    go_big_quiet_on
                    go_big_quiet_want
                    apply Exists.intro
                    refine ⟨fun u hu => ?_, ?_⟩
                    · obtain ⟨hu0, hu1, hu2, hu3, hu4, hu5, hu6, hu7⟩ := hu
                      unfold Oper.quietAt
                      go_simp
                      try rfl
                    simp only [Act.put, List.setIfInBounds_toArray, List.set_cons_zero, List.set_cons_succ]
                    go_big_quiet_on
                    go_big_quiet_want
                    apply Exists.intro
                    refine ⟨fun u hu => ?_, ?_⟩
                    · obtain ⟨hu0, hu1, hu2, hu3, hu4, hu5, hu6, hu7⟩ := hu
                      unfold Oper.quietAt
                      go_simp
                      try rfl
                    simp only [Act.put, List.setIfInBounds_toArray, List.set_cons_zero, List.set_cons_succ]
                    go_big_quiet_on
                    go_big_quiet_want
                    apply Exists.intro
                    refine ⟨fun u hu => ?_, ?_⟩
                    · obtain ⟨hu0, hu1, hu2, hu3, hu4, hu5, hu6, hu7⟩ := hu
                      unfold Oper.quietAt
                      go_simp
                      try rfl
                    simp only [Act.put, List.setIfInBounds_toArray, List.set_cons_zero, List.set_cons_succ]
                    go_big_quiet_on
                    go_big_quiet_want
                    apply Exists.intro
                    refine ⟨fun u hu => ?_, ?_⟩
                    · obtain ⟨hu0, hu1, hu2, hu3, hu4, hu5, hu6, hu7⟩ := hu
                      unfold Oper.quietAt
                      go_simp
                      try rfl
                    simp only [Act.put, List.setIfInBounds_toArray, List.set_cons_zero, List.set_cons_succ]
                    go_big_quiet_on
                    refine wpQuiet_nil ?_
                    rintro u ⟨k9, d0, d1, d2, d3, d4, d5, _⟩
                    go_wp2_with fail
                    go_ret
                    exact ⟨ret_b HV.out.symm, hbw.trans (k9.mono hsw)⟩
    · have e : k = n := by omega
      subst e
      have HV := Lib.hid (te_all hl.out ha.out)
      go_wp2_with fail
      go_ret
      refine ⟨ret_b ?_, hb⟩
      rw [HV.out]
      exact (decide_eq_decide.2 (by omega))
end Go.Proofs.Ythkigilegnjglaa
