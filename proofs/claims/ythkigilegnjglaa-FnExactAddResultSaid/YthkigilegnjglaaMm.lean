/- Contracts of MayMeet and TotalWins, the code's and the models'. Condition: integers of 64 bits; the slice has at most 2^20 elements, each team's at most 2^20. -/
import Derived.Test.YthkigilegnjglaaTwo
namespace Go.Proofs.Ythkigilegnjglaa
open Go.ChangeShapes Go.WideShapes Go.ChangeAt Go.RowKit
set_option maxRecDepth 100000
def mmB (X : List Tm) (a b : Int) : Bool := twB X a b && canT (X.getD (fndI X a).toNat tmD) (X.getD (fndI X b).toNat tmD)
theorem mm_no {X : List Tm} {a b : Int} (h : twB X a b = false) : mmB X a b = false := by unfold mmB; rw [h, Bool.false_and]
theorem tw_parts {X : List Tm} {a b : Int} (h : twB X a b = true) : atB X = true ∧ ∃ i j : Nat, fndO X a = some (i : Int) ∧ fndO X b = some (j : Int) ∧ ∃ x y : Tm, X[i]? = some x ∧ X[j]? = some y ∧ x.id = a ∧ y.id = b := by
  unfold twB at h
  rw [Bool.and_eq_true, Bool.and_eq_true] at h
  obtain ⟨⟨h1, h2⟩, h3⟩ := h
  cases ha : fndO X a with
  | none => rw [ha] at h2; cases h2
  | some v =>
    cases hb : fndO X b with
    | none => rw [hb] at h3; cases h3
    | some u =>
      obtain ⟨i, rfl, hi, h4, _⟩ := fndO_some ha
      obtain ⟨j, rfl, hj, h5, _⟩ := fndO_some hb
      exact ⟨h1, i, j, rfl, rfl, X[i], X[j], List.getElem?_eq_getElem hi, List.getElem?_eq_getElem hj, h4, h5⟩
theorem mm_yes {X : List Tm} {a b : Int} {i j : Nat} {x y : Tm} (h : twB X a b = true) (hi : fndO X a = some (i : Int)) (hj : fndO X b = some (j : Int)) (hx : X[i]? = some x) (hy : X[j]? = some y) : mmB X a b = canT x y := by
  unfold mmB
  rw [h, Bool.true_and, fndI_some hi, fndI_some hj]
  simp [List.getD, hx, hy]
set_option maxHeartbeats 4000000 in
theorem impMayMeet_any {w : World} {A : Option Addr} {n c : Nat} {X : List Tm} {a b : Int} (hl : Hid (X.length = n)) (hn : n ≤ 1048576) (hs : Hid (∀ x ∈ X, x.met.length ≤ 1048576)) (hok : Hid (∀ x ∈ X, x.ok)) (ha : Hid (I6 a)) (hb : Hid (I6 b)) (hr : RdT w w.heap.size A X) :
    Calls Try.prog 28 #[.slice A n c, .int .i64 a, .int .i64 b] w (Tells (mmB X a b) w) := by
  cases hw : twB X a b with
  | false =>
    have HV := Lib.hid (mm_no hw)
    have HW := Lib.hid hw
    clear hw
    go_enter Try.func28, Try.ntmps28
    go_wp2_with fail
    refine (twoTeams_no hl hn hs hok ha hb hr HW).mono ?_
    rintro e W1 ⟨rfl, b1⟩
    obtain ⟨W2, hW2, x2, b2, z2⟩ := box6 W1 82 (.int .i64 0) (.int .i64 0) (.int .i64 0) (.int .i64 0) (.int .i64 0) (.slice none 0 0)
    obtain ⟨W3, hW3, x3, b3, z3⟩ := box6 W2 82 (.int .i64 0) (.int .i64 0) (.int .i64 0) (.int .i64 0) (.int .i64 0) (.slice none 0 0)
    have HQ := Lib.hid ((b1.trans (b2.mono b1.size)).trans (b3.mono (by have := b1.size; omega)))
    have HA := Lib.hid (show (W1.alloc (Obj.cells #[Value.int .i64 0, .int .i64 0, .int .i64 0, .int .i64 0, .int .i64 0, .slice none 0 0] 82)).alloc (Obj.cells #[Value.int .i64 0, .int .i64 0, .int .i64 0, .int .i64 0, .int .i64 0, .slice none 0 0] 82) = W3 by rw [hW2, hW3])
    clear hW2 hW3 x2 x3 b1 b2 b3 z2 z3
    go_wp2_with fail
    rw [HA.out]
    try (go_wp2_with fail)
    go_ret
    exact ⟨ret_b HV.out.symm, HQ.out⟩
  | true =>
    obtain ⟨hT, i, j, hi, hj, x, y, hx, hy, hxa, hyb⟩ := tw_parts hw
    clear hxa hyb
    have HV := Lib.hid (mm_yes hw hi hj hx hy)
    have HM := Lib.hid (hs.out x (List.mem_of_getElem? hx))
    have hT := Lib.hid hT
    have hi := Lib.hid hi
    have hj := Lib.hid hj
    have hx := Lib.hid hx
    have hy := Lib.hid hy
    clear hw
    go_enter Try.func28, Try.ntmps28
    go_wp2_with fail
    refine (twoTeams_yes hl hn hs hok ha hb hr hT hi hj hx hy).mono ?_
    rintro e W1 ⟨Ai, ci, Aj, cj, rfl, b1, hri, hrj⟩
    obtain ⟨m, hm⟩ : ∃ m, x.met.length = m := ⟨_, rfl⟩
    obtain ⟨m', hm'⟩ : ∃ m, y.met.length = m := ⟨_, rfl⟩
    rw [hm, hm']
    have HM' := Lib.hid hm
    obtain ⟨W2, hW2, x2, b2, z2⟩ := box6 W1 82 (.int .i64 x.id) (.int .i64 x.club) (.int .i64 x.wins) (.int .i64 x.pts) (.int .i64 x.firsts) (.slice Ai m ci)
    obtain ⟨W3, hW3, x3, b3, z3⟩ := box6 W2 82 (.int .i64 y.id) (.int .i64 y.club) (.int .i64 y.wins) (.int .i64 y.pts) (.int .i64 y.firsts) (.slice Aj m' cj)
    have b13 := b2.trans (b3.mono b2.size)
    have HQ := Lib.hid (b1.trans (b13.mono b1.size))
    have HRI := Lib.hid ((hri.below b13).more b13.size)
    have HA := Lib.hid (show (W1.alloc (Obj.cells #[Value.int .i64 x.id, .int .i64 x.club, .int .i64 x.wins, .int .i64 x.pts, .int .i64 x.firsts, .slice Ai m ci] 82)).alloc (Obj.cells #[Value.int .i64 y.id, .int .i64 y.club, .int .i64 y.wins, .int .i64 y.pts, .int .i64 y.firsts, .slice Aj m' cj] 82) = W3 by rw [hW2, hW3])
    rw [z2] at x3
    obtain ⟨c0, c1, c2, c3, c4, c5⟩ := x2.c6 b3
    obtain ⟨d0, d1, d2, d3, d4, d5⟩ := x3.c6 (Below.refl _ _)
    clear hW2 hW3 x2 x3 b1 b2 b3 z2 z3 b13 hri hrj hm hm'
    go_wp2_with fail
    rw [HA.out]
    try (go_wp2_with fail)
    refine (canMeet_any HM' (by rw [← HM'.out]; exact HM.out) HRI.out).mono ?_
    rintro e u ⟨rfl, bu⟩
    go_wp2_with fail
    go_ret
    exact ⟨ret_b HV.out.symm, HQ.out.trans (bu.mono HQ.out.size)⟩
set_option maxHeartbeats 8000000 in
theorem specMayMeet_any {w : World} {A : Option Addr} {n c : Nat} {X : List Tm} {a b : Int} (hl : Hid (X.length = n)) (hn : n ≤ 1048576) (hs : Hid (∀ x ∈ X, x.met.length ≤ 1048576)) (hr : RdT w w.heap.size A X) :
    Calls Try.prog 27 #[.slice A n c, .int .i64 a, .int .i64 b] w (Tells (mmB X a b) w) := by
  obtain ⟨fa, hfa⟩ : ∃ v, fndI X a = v := ⟨_, rfl⟩
  obtain ⟨fb, hfb⟩ : ∃ v, fndI X b = v := ⟨_, rfl⟩
  have HFA := Lib.hid hfa
  have HFB := Lib.hid hfb
  clear hfa hfb
  cases hT : atB X with
  | false =>
    have HV := Lib.hid (mm_no (X := X) (a := a) (b := b) (by unfold twB; rw [hT]; rfl))
    have HT := Lib.hid hT
    clear hT
    go_enter Try.func27, Try.ntmps27
    go_wp2_with fail
    refine (specFindTeam_any hl (by omega) hr).mono ?_
    rintro e u1 ⟨rfl, rfl⟩
    rw [HFA.out]
    go_wp2_with fail
    refine (specFindTeam_any hl (by omega) hr).mono ?_
    rintro e u1 ⟨rfl, rfl⟩
    rw [HFB.out]
    go_wp2_with fail
    have KE := fun (u : World) (q : Below w.heap.size w u) => show Below w.heap.size w u from q
    refine wp_region_quiet (C := fun u => Below w.heap.size w u) (by kernel_rfl) (by kernel_rfl) (KE _ (Below.refl w.heap.size w).drew) ?_
    rw [List.toList_toArray]
    go_big_quiet_want
    go_big_quiet_op
    go_big_quiet_on
    go_big_quiet_want
    refine ⟨.bool false, fun u hu => ?_, ?_⟩
    · have hu0 := hu
      unfold Oper.quietAt
      go_simp
      refine (specAreTeams_any hl hn hs ((hr.below hu0).more hu0.size)).mono ?_
      rintro e u9 ⟨he, k9⟩
      rw [HT.out] at he
      exact ⟨he, KE _ (hu0.trans (k9.mono hu0.size))⟩
    simp only [Act.put, List.setIfInBounds_toArray, List.set_cons_zero, List.set_cons_succ]
    go_big_quiet_on
    go_big_quiet_want
    go_big_quiet_op
    go_big_quiet_on
    repeat go_big_quiet_skip
    go_big_quiet_want
    apply Exists.intro
    refine ⟨fun u hu => ?_, ?_⟩
    · have hu0 := hu
      unfold Oper.quietAt
      go_simp
      try rfl
    simp only [Act.put, List.setIfInBounds_toArray, List.set_cons_zero, List.set_cons_succ]
    go_big_quiet_on
    go_big_quiet_want
    go_big_quiet_op
    go_big_quiet_on
    repeat go_big_quiet_skip
    go_big_quiet_want
    apply Exists.intro
    refine ⟨fun u hu => ?_, ?_⟩
    · have hu0 := hu
      unfold Oper.quietAt
      go_simp
      try rfl
    simp only [Act.put, List.setIfInBounds_toArray, List.set_cons_zero, List.set_cons_succ]
    go_big_quiet_on
    go_big_quiet_want
    go_big_quiet_op
    go_big_quiet_on
    repeat go_big_quiet_skip
    go_big_quiet_want
    apply Exists.intro
    refine ⟨fun u hu => ?_, ?_⟩
    · have hu0 := hu
      unfold Oper.quietAt
      go_simp
      try rfl
    simp only [Act.put, List.setIfInBounds_toArray, List.set_cons_zero, List.set_cons_succ]
    go_big_quiet_on
    go_big_quiet_want
    go_big_quiet_op
    go_big_quiet_on
    repeat go_big_quiet_skip
    go_big_quiet_want
    apply Exists.intro
    refine ⟨fun u hu => ?_, ?_⟩
    · have hu0 := hu
      unfold Oper.quietAt
      go_simp
      try rfl
    simp only [Act.put, List.setIfInBounds_toArray, List.set_cons_zero, List.set_cons_succ]
    go_big_quiet_on
    go_big_quiet_want
    go_big_quiet_op
    go_big_quiet_on
    repeat go_big_quiet_skip
    go_big_quiet_want
    apply Exists.intro
    refine ⟨fun u hu => ?_, ?_⟩
    · have hu0 := hu
      unfold Oper.quietAt
      go_simp
      try rfl
    simp only [Act.put, List.setIfInBounds_toArray, List.set_cons_zero, List.set_cons_succ]
    go_big_quiet_on
    go_big_quiet_want
    go_big_quiet_op
    go_big_quiet_on
    refine wpQuiet_nil ?_
    rintro u3 k8
    go_wp2_with fail
    go_ret
    exact ⟨ret_b HV.out.symm, k8⟩
  | true =>
    cases hA : fndO X a with
    | none =>
      have HV := Lib.hid (mm_no (X := X) (a := a) (b := b) (by unfold twB; rw [hA]; simp))
      have HT := Lib.hid hT
      have HA := Lib.hid (fndI_none hA)
      clear hT hA
      go_enter Try.func27, Try.ntmps27
      go_wp2_with fail
      refine (specFindTeam_any hl (by omega) hr).mono ?_
      rintro e u1 ⟨rfl, rfl⟩
      rw [HA.out]
      go_wp2_with fail
      refine (specFindTeam_any hl (by omega) hr).mono ?_
      rintro e u1 ⟨rfl, rfl⟩
      rw [HFB.out]
      go_wp2_with fail
      have KE := fun (u : World) (q : Below w.heap.size w u) => show Below w.heap.size w u from q
      refine wp_region_quiet (C := fun u => Below w.heap.size w u) (by kernel_rfl) (by kernel_rfl) (KE _ (Below.refl w.heap.size w).drew) ?_
      rw [List.toList_toArray]
      go_big_quiet_want
      go_big_quiet_op
      go_big_quiet_on
      go_big_quiet_want
      refine ⟨.bool true, fun u hu => ?_, ?_⟩
      · have hu0 := hu
        unfold Oper.quietAt
        go_simp
        refine (specAreTeams_any hl hn hs ((hr.below hu0).more hu0.size)).mono ?_
        rintro e u9 ⟨he, k9⟩
        rw [HT.out] at he
        exact ⟨he, KE _ (hu0.trans (k9.mono hu0.size))⟩
      simp only [Act.put, List.setIfInBounds_toArray, List.set_cons_zero, List.set_cons_succ]
      go_big_quiet_on
      go_big_quiet_want
      go_big_quiet_op
      go_big_quiet_on
      go_big_quiet_want
      go_big_quiet_op
      go_big_quiet_on
      go_big_quiet_want
      apply Exists.intro
      refine ⟨fun u hu => ?_, ?_⟩
      · have hu0 := hu
        unfold Oper.quietAt
        go_simp
        try rfl
      simp only [Act.put, List.setIfInBounds_toArray, List.set_cons_zero, List.set_cons_succ]
      go_big_quiet_on
      go_big_quiet_want
      apply Exists.intro
      refine ⟨fun u hu => ?_, ?_⟩
      · have hu0 := hu
        unfold Oper.quietAt
        go_simp
        try rfl
      simp only [Act.put, List.setIfInBounds_toArray, List.set_cons_zero, List.set_cons_succ]
      go_big_quiet_on
      go_big_quiet_want
      go_big_quiet_op
      go_big_quiet_on
      repeat go_big_quiet_skip
      go_big_quiet_want
      apply Exists.intro
      refine ⟨fun u hu => ?_, ?_⟩
      · have hu0 := hu
        unfold Oper.quietAt
        go_simp
        try rfl
      simp only [Act.put, List.setIfInBounds_toArray, List.set_cons_zero, List.set_cons_succ]
      go_big_quiet_on
      go_big_quiet_want
      go_big_quiet_op
      go_big_quiet_on
      repeat go_big_quiet_skip
      go_big_quiet_want
      apply Exists.intro
      refine ⟨fun u hu => ?_, ?_⟩
      · have hu0 := hu
        unfold Oper.quietAt
        go_simp
        try rfl
      simp only [Act.put, List.setIfInBounds_toArray, List.set_cons_zero, List.set_cons_succ]
      go_big_quiet_on
      go_big_quiet_want
      go_big_quiet_op
      go_big_quiet_on
      repeat go_big_quiet_skip
      go_big_quiet_want
      apply Exists.intro
      refine ⟨fun u hu => ?_, ?_⟩
      · have hu0 := hu
        unfold Oper.quietAt
        go_simp
        try rfl
      simp only [Act.put, List.setIfInBounds_toArray, List.set_cons_zero, List.set_cons_succ]
      go_big_quiet_on
      go_big_quiet_want
      go_big_quiet_op
      go_big_quiet_on
      repeat go_big_quiet_skip
      go_big_quiet_want
      apply Exists.intro
      refine ⟨fun u hu => ?_, ?_⟩
      · have hu0 := hu
        unfold Oper.quietAt
        go_simp
        try rfl
      simp only [Act.put, List.setIfInBounds_toArray, List.set_cons_zero, List.set_cons_succ]
      go_big_quiet_on
      go_big_quiet_want
      go_big_quiet_op
      go_big_quiet_on
      refine wpQuiet_nil ?_
      rintro u3 k8
      go_wp2_with fail
      go_ret
      exact ⟨ret_b HV.out.symm, k8⟩
    | some v =>
      cases hB : fndO X b with
      | none =>
        have HV := Lib.hid (mm_no (X := X) (a := a) (b := b) (by unfold twB; rw [hB]; simp))
        have HT := Lib.hid hT
        have HA := Lib.hid (fndI_some hA)
        have HB := Lib.hid (fndI_none hB)
        obtain ⟨i, rfl, hi, _, _⟩ := fndO_some hA
        have d1 : decide ((0 : Int) ≤ (i : Int)) = true := decide_eq_true (by omega)
        clear hT hA hB
        go_enter Try.func27, Try.ntmps27
        go_wp2_with fail
        refine (specFindTeam_any hl (by omega) hr).mono ?_
        rintro e u1 ⟨rfl, rfl⟩
        rw [HA.out]
        go_wp2_with fail
        refine (specFindTeam_any hl (by omega) hr).mono ?_
        rintro e u1 ⟨rfl, rfl⟩
        rw [HB.out]
        go_wp2_with fail
        have KE := fun (u : World) (q : Below w.heap.size w u) => show Below w.heap.size w u from q
        refine wp_region_quiet (C := fun u => Below w.heap.size w u) (by kernel_rfl) (by kernel_rfl) (KE _ (Below.refl w.heap.size w).drew) ?_
        rw [List.toList_toArray]
        go_big_quiet_want
        go_big_quiet_op
        go_big_quiet_on
        go_big_quiet_want
        refine ⟨.bool true, fun u hu => ?_, ?_⟩
        · have hu0 := hu
          unfold Oper.quietAt
          go_simp
          refine (specAreTeams_any hl hn hs ((hr.below hu0).more hu0.size)).mono ?_
          rintro e u9 ⟨he, k9⟩
          rw [HT.out] at he
          exact ⟨he, KE _ (hu0.trans (k9.mono hu0.size))⟩
        simp only [Act.put, List.setIfInBounds_toArray, List.set_cons_zero, List.set_cons_succ]
        go_big_quiet_on
        go_big_quiet_want
        go_big_quiet_op
        go_big_quiet_on
        go_big_quiet_want
        go_big_quiet_op
        go_big_quiet_on
        go_big_quiet_want
        apply Exists.intro
        refine ⟨fun u hu => ?_, ?_⟩
        · have hu0 := hu
          unfold Oper.quietAt
          go_simp
          try rfl
        simp only [Act.put, List.setIfInBounds_toArray, List.set_cons_zero, List.set_cons_succ]
        go_big_quiet_on
        go_big_quiet_want
        apply Exists.intro
        refine ⟨fun u hu => ?_, ?_⟩
        · have hu0 := hu
          unfold Oper.quietAt
          go_simp
          try rfl
        simp only [Act.put, List.setIfInBounds_toArray, List.set_cons_zero, List.set_cons_succ]
        go_big_quiet_on
        go_big_quiet_want
        go_big_quiet_op
        go_big_quiet_on
        go_big_quiet_want
        go_big_quiet_op
        go_big_quiet_on
        go_big_quiet_want
        apply Exists.intro
        refine ⟨fun u hu => ?_, ?_⟩
        · have hu0 := hu
          unfold Oper.quietAt
          go_simp
          try rfl
        simp only [Act.put, List.setIfInBounds_toArray, List.set_cons_zero, List.set_cons_succ]
        go_big_quiet_on
        go_big_quiet_want
        apply Exists.intro
        refine ⟨fun u hu => ?_, ?_⟩
        · have hu0 := hu
          unfold Oper.quietAt
          go_simp
          try rfl
        simp only [Act.put, List.setIfInBounds_toArray, List.set_cons_zero, List.set_cons_succ]
        go_big_quiet_on
        go_big_quiet_want
        go_big_quiet_op
        go_big_quiet_on
        repeat go_big_quiet_skip
        go_big_quiet_want
        apply Exists.intro
        refine ⟨fun u hu => ?_, ?_⟩
        · have hu0 := hu
          unfold Oper.quietAt
          go_simp
          try rfl
        simp only [Act.put, List.setIfInBounds_toArray, List.set_cons_zero, List.set_cons_succ]
        go_big_quiet_on
        go_big_quiet_want
        go_big_quiet_op
        go_big_quiet_on
        repeat go_big_quiet_skip
        go_big_quiet_want
        apply Exists.intro
        refine ⟨fun u hu => ?_, ?_⟩
        · have hu0 := hu
          unfold Oper.quietAt
          go_simp
          try rfl
        simp only [Act.put, List.setIfInBounds_toArray, List.set_cons_zero, List.set_cons_succ]
        go_big_quiet_on
        go_big_quiet_want
        go_big_quiet_op
        go_big_quiet_on
        repeat go_big_quiet_skip
        go_big_quiet_want
        apply Exists.intro
        refine ⟨fun u hu => ?_, ?_⟩
        · have hu0 := hu
          unfold Oper.quietAt
          go_simp
          try rfl
        simp only [Act.put, List.setIfInBounds_toArray, List.set_cons_zero, List.set_cons_succ]
        go_big_quiet_on
        go_big_quiet_want
        go_big_quiet_op
        go_big_quiet_on
        refine wpQuiet_nil ?_
        rintro u3 k8
        go_wp2_with fail
        go_ret
        exact ⟨ret_b HV.out.symm, k8⟩
      | some v' =>
        have htw : twB X a b = true := by unfold twB; rw [hT, hA, hB]; rfl
        have HM := Lib.hid (hm_some (b := b) hA)
        have HT := Lib.hid hT
        have HA := Lib.hid (fndI_some hA)
        have HB := Lib.hid (fndI_some hB)
        obtain ⟨i, rfl, hi, hie, _⟩ := fndO_some hA
        obtain ⟨j, rfl, hj, hje, _⟩ := fndO_some hB
        have HV := Lib.hid (mm_yes htw hA hB (List.getElem?_eq_getElem hi) (List.getElem?_eq_getElem hj))
        have d1 : decide ((0 : Int) ≤ (i : Int)) = true := decide_eq_true (by omega)
        have d2 : decide ((0 : Int) ≤ (j : Int)) = true := decide_eq_true (by omega)
        have hin : i < n := by rw [← hl.out]; exact hi
        have hjn : j < n := by rw [← hl.out]; exact hj
        by_cases hij : i = j
        · subst hij
          have HV2 := Lib.hid (show mmB X a b = false by rw [HV.out]; unfold canT; simp)
          clear hT hA hB HV
          go_enter Try.func27, Try.ntmps27
          go_wp2_with fail
          refine (specFindTeam_any hl (by omega) hr).mono ?_
          rintro e u1 ⟨rfl, rfl⟩
          rw [HA.out]
          go_wp2_with fail
          refine (specFindTeam_any hl (by omega) hr).mono ?_
          rintro e u1 ⟨rfl, rfl⟩
          rw [HB.out]
          go_wp2_with fail
          have KE := fun (u : World) (q : Below w.heap.size w u) => show Below w.heap.size w u from q
          refine wp_region_quiet (C := fun u => Below w.heap.size w u) (by kernel_rfl) (by kernel_rfl) (KE _ (Below.refl w.heap.size w).drew) ?_
          rw [List.toList_toArray]
          go_big_quiet_want
          go_big_quiet_op
          go_big_quiet_on
          go_big_quiet_want
          refine ⟨.bool true, fun u hu => ?_, ?_⟩
          · have hu0 := hu
            unfold Oper.quietAt
            go_simp
            refine (specAreTeams_any hl hn hs ((hr.below hu0).more hu0.size)).mono ?_
            rintro e u9 ⟨he, k9⟩
            rw [HT.out] at he
            exact ⟨he, KE _ (hu0.trans (k9.mono hu0.size))⟩
          simp only [Act.put, List.setIfInBounds_toArray, List.set_cons_zero, List.set_cons_succ]
          go_big_quiet_on
          go_big_quiet_want
          go_big_quiet_op
          go_big_quiet_on
          go_big_quiet_want
          go_big_quiet_op
          go_big_quiet_on
          go_big_quiet_want
          apply Exists.intro
          refine ⟨fun u hu => ?_, ?_⟩
          · have hu0 := hu
            unfold Oper.quietAt
            go_simp
            try rfl
          simp only [Act.put, List.setIfInBounds_toArray, List.set_cons_zero, List.set_cons_succ]
          go_big_quiet_on
          go_big_quiet_want
          apply Exists.intro
          refine ⟨fun u hu => ?_, ?_⟩
          · have hu0 := hu
            unfold Oper.quietAt
            go_simp
            try rfl
          simp only [Act.put, List.setIfInBounds_toArray, List.set_cons_zero, List.set_cons_succ]
          go_big_quiet_on
          go_big_quiet_want
          go_big_quiet_op
          go_big_quiet_on
          go_big_quiet_want
          go_big_quiet_op
          go_big_quiet_on
          go_big_quiet_want
          apply Exists.intro
          refine ⟨fun u hu => ?_, ?_⟩
          · have hu0 := hu
            unfold Oper.quietAt
            go_simp
            try rfl
          simp only [Act.put, List.setIfInBounds_toArray, List.set_cons_zero, List.set_cons_succ]
          go_big_quiet_on
          go_big_quiet_want
          apply Exists.intro
          refine ⟨fun u hu => ?_, ?_⟩
          · have hu0 := hu
            unfold Oper.quietAt
            go_simp
            try rfl
          simp only [Act.put, List.setIfInBounds_toArray, List.set_cons_zero, List.set_cons_succ]
          go_big_quiet_on
          go_big_quiet_want
          go_big_quiet_op
          go_big_quiet_on
          go_big_quiet_want
          go_big_quiet_op
          go_big_quiet_on
          go_big_quiet_want
          go_big_quiet_op
          go_big_quiet_on
          go_big_quiet_want
          apply Exists.intro
          refine ⟨fun u hu => ?_, ?_⟩
          · have hu0 := hu
            unfold Oper.quietAt
            go_simp
            try rfl
          simp only [Act.put, List.setIfInBounds_toArray, List.set_cons_zero, List.set_cons_succ]
          go_big_quiet_on
          go_big_quiet_want
          apply Exists.intro
          refine ⟨fun u hu => ?_, ?_⟩
          · have hu0 := hu
            unfold Oper.quietAt
            go_simp
            try rfl
          simp only [Act.put, List.setIfInBounds_toArray, List.set_cons_zero, List.set_cons_succ]
          go_big_quiet_on
          go_big_quiet_want
          go_big_quiet_op
          go_big_quiet_on
          repeat go_big_quiet_skip
          go_big_quiet_want
          apply Exists.intro
          refine ⟨fun u hu => ?_, ?_⟩
          · have hu0 := hu
            unfold Oper.quietAt
            go_simp
            try rfl
          simp only [Act.put, List.setIfInBounds_toArray, List.set_cons_zero, List.set_cons_succ]
          go_big_quiet_on
          go_big_quiet_want
          go_big_quiet_op
          go_big_quiet_on
          repeat go_big_quiet_skip
          go_big_quiet_want
          apply Exists.intro
          refine ⟨fun u hu => ?_, ?_⟩
          · have hu0 := hu
            unfold Oper.quietAt
            go_simp
            try rfl
          simp only [Act.put, List.setIfInBounds_toArray, List.set_cons_zero, List.set_cons_succ]
          go_big_quiet_on
          go_big_quiet_want
          go_big_quiet_op
          go_big_quiet_on
          refine wpQuiet_nil ?_
          rintro u3 k8
          go_wp2_with fail
          go_ret
          exact ⟨ret_b HV2.out.symm, k8⟩
        · obtain ⟨ad, p, rfl, hp, hab, Ai, ci, h0, h1, h2, h3, h4, h5, _, _, hri⟩ := hr.at_ hi
          obtain ⟨ad', p', e', hp', hab', Aj, cj, g0, g1, g2, g3, g4, g5, _, _, hrj⟩ := hr.at_ hj
          injection e' with e'
          subst e'
          have i0 : (0 : Int) ≤ (i : Int) := by omega
          have i1 : (i : Int) < (n : Int) := by omega
          have j0 : (0 : Int) ≤ (j : Int) := by omega
          have j1 : (j : Int) < (n : Int) := by omega
          have dij : ((i : Int) != (j : Int)) = true := by simp; omega
          have hG : X.getD ((i : Int)).toNat tmD = X[i] := by simp [List.getD, List.getElem?_eq_getElem hi]
          rw [hG] at HM
          obtain ⟨x, hx⟩ : ∃ x, x = X[i] := ⟨_, rfl⟩
          obtain ⟨y, hy⟩ : ∃ y, y = X[j] := ⟨_, rfl⟩
          rw [← hx] at h1 HM HV
          rw [← hy] at g1 HV hje
          have HYE := Lib.hid hje
          clear hT hA hB hG hx hy hje hij hie h0 h2 h3 h4 h5 g0 g2 g3 g4 g5
          by_cases hc : x.club = y.club
          · have HV2 := Lib.hid (show mmB X a b = false by rw [HV.out]; unfold canT; rw [decide_eq_false (by simpa using hc)]; rfl)
            have dc : (x.club != y.club) = false := by simp [hc]
            clear hc
            go_enter Try.func27, Try.ntmps27
            go_wp2_with fail
            refine (specFindTeam_any hl (by omega) hr).mono ?_
            rintro e u1 ⟨rfl, rfl⟩
            rw [HA.out]
            go_wp2_with fail
            refine (specFindTeam_any hl (by omega) hr).mono ?_
            rintro e u1 ⟨rfl, rfl⟩
            rw [HB.out]
            go_wp2_with fail
            have KE := fun (u : World) (q : Below w.heap.size w u) => show Below w.heap.size w u ∧ u.cell? ⟨p.block, p.off + 1, none⟩ = some (.int .i64 x.club) ∧ u.cell? ⟨p'.block, p'.off + 1, none⟩ = some (.int .i64 y.club) from ⟨q, nwc5 q h1, nwc5 q g1⟩
            refine wp_region_quiet (C := fun u => Below w.heap.size w u ∧ u.cell? ⟨p.block, p.off + 1, none⟩ = some (.int .i64 x.club) ∧ u.cell? ⟨p'.block, p'.off + 1, none⟩ = some (.int .i64 y.club)) (by kernel_rfl) (by kernel_rfl) (KE _ (Below.refl w.heap.size w).drew) ?_
            rw [List.toList_toArray]
            go_big_quiet_want
            go_big_quiet_op
            go_big_quiet_on
            go_big_quiet_want
            refine ⟨.bool true, fun u hu => ?_, ?_⟩
            · obtain ⟨hu0, hu1, hu2⟩ := hu
              unfold Oper.quietAt
              go_simp
              refine (specAreTeams_any hl hn hs ((hr.below hu0).more hu0.size)).mono ?_
              rintro e u9 ⟨he, k9⟩
              rw [HT.out] at he
              exact ⟨he, KE _ (hu0.trans (k9.mono hu0.size))⟩
            simp only [Act.put, List.setIfInBounds_toArray, List.set_cons_zero, List.set_cons_succ]
            go_big_quiet_on
            go_big_quiet_want
            go_big_quiet_op
            go_big_quiet_on
            go_big_quiet_want
            go_big_quiet_op
            go_big_quiet_on
            go_big_quiet_want
            apply Exists.intro
            refine ⟨fun u hu => ?_, ?_⟩
            · obtain ⟨hu0, hu1, hu2⟩ := hu
              unfold Oper.quietAt
              go_simp
              try rfl
            simp only [Act.put, List.setIfInBounds_toArray, List.set_cons_zero, List.set_cons_succ]
            go_big_quiet_on
            go_big_quiet_want
            apply Exists.intro
            refine ⟨fun u hu => ?_, ?_⟩
            · obtain ⟨hu0, hu1, hu2⟩ := hu
              unfold Oper.quietAt
              go_simp
              try rfl
            simp only [Act.put, List.setIfInBounds_toArray, List.set_cons_zero, List.set_cons_succ]
            go_big_quiet_on
            go_big_quiet_want
            go_big_quiet_op
            go_big_quiet_on
            go_big_quiet_want
            go_big_quiet_op
            go_big_quiet_on
            go_big_quiet_want
            apply Exists.intro
            refine ⟨fun u hu => ?_, ?_⟩
            · obtain ⟨hu0, hu1, hu2⟩ := hu
              unfold Oper.quietAt
              go_simp
              try rfl
            simp only [Act.put, List.setIfInBounds_toArray, List.set_cons_zero, List.set_cons_succ]
            go_big_quiet_on
            go_big_quiet_want
            apply Exists.intro
            refine ⟨fun u hu => ?_, ?_⟩
            · obtain ⟨hu0, hu1, hu2⟩ := hu
              unfold Oper.quietAt
              go_simp
              try rfl
            simp only [Act.put, List.setIfInBounds_toArray, List.set_cons_zero, List.set_cons_succ]
            go_big_quiet_on
            go_big_quiet_want
            go_big_quiet_op
            go_big_quiet_on
            go_big_quiet_want
            go_big_quiet_op
            go_big_quiet_on
            go_big_quiet_want
            go_big_quiet_op
            go_big_quiet_on
            go_big_quiet_want
            apply Exists.intro
            refine ⟨fun u hu => ?_, ?_⟩
            · obtain ⟨hu0, hu1, hu2⟩ := hu
              unfold Oper.quietAt
              go_simp
              try rfl
            simp only [Act.put, List.setIfInBounds_toArray, List.set_cons_zero, List.set_cons_succ]
            go_big_quiet_on
            go_big_quiet_want
            apply Exists.intro
            refine ⟨fun u hu => ?_, ?_⟩
            · obtain ⟨hu0, hu1, hu2⟩ := hu
              unfold Oper.quietAt
              go_simp
              try rfl
            simp only [Act.put, List.setIfInBounds_toArray, List.set_cons_zero, List.set_cons_succ]
            go_big_quiet_on
            go_big_quiet_want
            go_big_quiet_op
            go_big_quiet_on
            go_big_quiet_want
            go_big_quiet_op
            go_big_quiet_on
            go_big_quiet_want
            go_big_quiet_op
            go_big_quiet_on
            go_big_quiet_want
            apply Exists.intro
            refine ⟨fun u hu => ?_, ?_⟩
            · obtain ⟨hu0, hu1, hu2⟩ := hu
              unfold Oper.quietAt
              go_simp
              try rfl
            simp only [Act.put, List.setIfInBounds_toArray, List.set_cons_zero, List.set_cons_succ]
            go_big_quiet_on
            go_big_quiet_want
            apply Exists.intro
            refine ⟨fun u hu => ?_, ?_⟩
            · obtain ⟨hu0, hu1, hu2⟩ := hu
              unfold Oper.quietAt
              go_simp
              try rfl
            simp only [Act.put, List.setIfInBounds_toArray, List.set_cons_zero, List.set_cons_succ]
            go_big_quiet_on
            go_big_quiet_want
            apply Exists.intro
            refine ⟨fun u hu => ?_, ?_⟩
            · obtain ⟨hu0, hu1, hu2⟩ := hu
              unfold Oper.quietAt
              go_simp
              try rfl
            simp only [Act.put, List.setIfInBounds_toArray, List.set_cons_zero, List.set_cons_succ]
            go_big_quiet_on
            go_big_quiet_want
            go_big_quiet_op
            go_big_quiet_on
            go_big_quiet_want
            go_big_quiet_op
            go_big_quiet_on
            go_big_quiet_want
            apply Exists.intro
            refine ⟨fun u hu => ?_, ?_⟩
            · obtain ⟨hu0, hu1, hu2⟩ := hu
              unfold Oper.quietAt
              go_simp
              try rfl
            simp only [Act.put, List.setIfInBounds_toArray, List.set_cons_zero, List.set_cons_succ]
            go_big_quiet_on
            go_big_quiet_want
            apply Exists.intro
            refine ⟨fun u hu => ?_, ?_⟩
            · obtain ⟨hu0, hu1, hu2⟩ := hu
              unfold Oper.quietAt
              go_simp
              try rfl
            simp only [Act.put, List.setIfInBounds_toArray, List.set_cons_zero, List.set_cons_succ]
            go_big_quiet_on
            go_big_quiet_want
            apply Exists.intro
            refine ⟨fun u hu => ?_, ?_⟩
            · obtain ⟨hu0, hu1, hu2⟩ := hu
              unfold Oper.quietAt
              go_simp
              try rfl
            simp only [Act.put, List.setIfInBounds_toArray, List.set_cons_zero, List.set_cons_succ]
            go_big_quiet_on
            go_big_quiet_want
            apply Exists.intro
            refine ⟨fun u hu => ?_, ?_⟩
            · obtain ⟨hu0, hu1, hu2⟩ := hu
              unfold Oper.quietAt
              go_simp
              try rfl
            simp only [Act.put, List.setIfInBounds_toArray, List.set_cons_zero, List.set_cons_succ]
            go_big_quiet_on
            go_big_quiet_want
            apply Exists.intro
            refine ⟨fun u hu => ?_, ?_⟩
            · obtain ⟨hu0, hu1, hu2⟩ := hu
              unfold Oper.quietAt
              go_simp
              try rfl
            simp only [Act.put, List.setIfInBounds_toArray, List.set_cons_zero, List.set_cons_succ]
            go_big_quiet_on
            go_big_quiet_want
            go_big_quiet_op
            go_big_quiet_on
            repeat go_big_quiet_skip
            go_big_quiet_want
            apply Exists.intro
            refine ⟨fun u hu => ?_, ?_⟩
            · obtain ⟨hu0, hu1, hu2⟩ := hu
              unfold Oper.quietAt
              go_simp
              try rfl
            simp only [Act.put, List.setIfInBounds_toArray, List.set_cons_zero, List.set_cons_succ]
            go_big_quiet_on
            go_big_quiet_want
            go_big_quiet_op
            go_big_quiet_on
            refine wpQuiet_nil ?_
            rintro u3 ⟨k8, _⟩
            go_wp2_with fail
            go_ret
            exact ⟨ret_b HV2.out.symm, k8⟩
          · obtain ⟨h9, hh9⟩ : ∃ v, hmB X a b = v := ⟨_, rfl⟩
            have HH := Lib.hid hh9
            have HV2 := Lib.hid (show mmB X a b = !h9 by
              rw [HV.out, ← hh9, HM.out]
              unfold canT
              rw [decide_eq_true (by simpa using hc), HYE.out, Bool.true_and]
              congr 1; simp)
            have dc : (x.club != y.club) = true := by simpa using hc
            clear hc hh9
            go_enter Try.func27, Try.ntmps27
            go_wp2_with fail
            refine (specFindTeam_any hl (by omega) hr).mono ?_
            rintro e u1 ⟨rfl, rfl⟩
            rw [HA.out]
            go_wp2_with fail
            refine (specFindTeam_any hl (by omega) hr).mono ?_
            rintro e u1 ⟨rfl, rfl⟩
            rw [HB.out]
            go_wp2_with fail
            have KE := fun (u : World) (q : Below w.heap.size w u) => show Below w.heap.size w u ∧ u.cell? ⟨p.block, p.off + 1, none⟩ = some (.int .i64 x.club) ∧ u.cell? ⟨p'.block, p'.off + 1, none⟩ = some (.int .i64 y.club) from ⟨q, nwc5 q h1, nwc5 q g1⟩
            refine wp_region_quiet (C := fun u => Below w.heap.size w u ∧ u.cell? ⟨p.block, p.off + 1, none⟩ = some (.int .i64 x.club) ∧ u.cell? ⟨p'.block, p'.off + 1, none⟩ = some (.int .i64 y.club)) (by kernel_rfl) (by kernel_rfl) (KE _ (Below.refl w.heap.size w).drew) ?_
            rw [List.toList_toArray]
            go_big_quiet_want
            go_big_quiet_op
            go_big_quiet_on
            go_big_quiet_want
            refine ⟨.bool true, fun u hu => ?_, ?_⟩
            · obtain ⟨hu0, hu1, hu2⟩ := hu
              unfold Oper.quietAt
              go_simp
              refine (specAreTeams_any hl hn hs ((hr.below hu0).more hu0.size)).mono ?_
              rintro e u9 ⟨he, k9⟩
              rw [HT.out] at he
              exact ⟨he, KE _ (hu0.trans (k9.mono hu0.size))⟩
            simp only [Act.put, List.setIfInBounds_toArray, List.set_cons_zero, List.set_cons_succ]
            go_big_quiet_on
            go_big_quiet_want
            go_big_quiet_op
            go_big_quiet_on
            go_big_quiet_want
            go_big_quiet_op
            go_big_quiet_on
            go_big_quiet_want
            apply Exists.intro
            refine ⟨fun u hu => ?_, ?_⟩
            · obtain ⟨hu0, hu1, hu2⟩ := hu
              unfold Oper.quietAt
              go_simp
              try rfl
            simp only [Act.put, List.setIfInBounds_toArray, List.set_cons_zero, List.set_cons_succ]
            go_big_quiet_on
            go_big_quiet_want
            apply Exists.intro
            refine ⟨fun u hu => ?_, ?_⟩
            · obtain ⟨hu0, hu1, hu2⟩ := hu
              unfold Oper.quietAt
              go_simp
              try rfl
            simp only [Act.put, List.setIfInBounds_toArray, List.set_cons_zero, List.set_cons_succ]
            go_big_quiet_on
            go_big_quiet_want
            go_big_quiet_op
            go_big_quiet_on
            go_big_quiet_want
            go_big_quiet_op
            go_big_quiet_on
            go_big_quiet_want
            apply Exists.intro
            refine ⟨fun u hu => ?_, ?_⟩
            · obtain ⟨hu0, hu1, hu2⟩ := hu
              unfold Oper.quietAt
              go_simp
              try rfl
            simp only [Act.put, List.setIfInBounds_toArray, List.set_cons_zero, List.set_cons_succ]
            go_big_quiet_on
            go_big_quiet_want
            apply Exists.intro
            refine ⟨fun u hu => ?_, ?_⟩
            · obtain ⟨hu0, hu1, hu2⟩ := hu
              unfold Oper.quietAt
              go_simp
              try rfl
            simp only [Act.put, List.setIfInBounds_toArray, List.set_cons_zero, List.set_cons_succ]
            go_big_quiet_on
            go_big_quiet_want
            go_big_quiet_op
            go_big_quiet_on
            go_big_quiet_want
            go_big_quiet_op
            go_big_quiet_on
            go_big_quiet_want
            go_big_quiet_op
            go_big_quiet_on
            go_big_quiet_want
            apply Exists.intro
            refine ⟨fun u hu => ?_, ?_⟩
            · obtain ⟨hu0, hu1, hu2⟩ := hu
              unfold Oper.quietAt
              go_simp
              try rfl
            simp only [Act.put, List.setIfInBounds_toArray, List.set_cons_zero, List.set_cons_succ]
            go_big_quiet_on
            go_big_quiet_want
            apply Exists.intro
            refine ⟨fun u hu => ?_, ?_⟩
            · obtain ⟨hu0, hu1, hu2⟩ := hu
              unfold Oper.quietAt
              go_simp
              try rfl
            simp only [Act.put, List.setIfInBounds_toArray, List.set_cons_zero, List.set_cons_succ]
            go_big_quiet_on
            go_big_quiet_want
            go_big_quiet_op
            go_big_quiet_on
            go_big_quiet_want
            go_big_quiet_op
            go_big_quiet_on
            go_big_quiet_want
            go_big_quiet_op
            go_big_quiet_on
            go_big_quiet_want
            apply Exists.intro
            refine ⟨fun u hu => ?_, ?_⟩
            · obtain ⟨hu0, hu1, hu2⟩ := hu
              unfold Oper.quietAt
              go_simp
              try rfl
            simp only [Act.put, List.setIfInBounds_toArray, List.set_cons_zero, List.set_cons_succ]
            go_big_quiet_on
            go_big_quiet_want
            apply Exists.intro
            refine ⟨fun u hu => ?_, ?_⟩
            · obtain ⟨hu0, hu1, hu2⟩ := hu
              unfold Oper.quietAt
              go_simp
              try rfl
            simp only [Act.put, List.setIfInBounds_toArray, List.set_cons_zero, List.set_cons_succ]
            go_big_quiet_on
            go_big_quiet_want
            apply Exists.intro
            refine ⟨fun u hu => ?_, ?_⟩
            · obtain ⟨hu0, hu1, hu2⟩ := hu
              unfold Oper.quietAt
              go_simp
              try rfl
            simp only [Act.put, List.setIfInBounds_toArray, List.set_cons_zero, List.set_cons_succ]
            go_big_quiet_on
            go_big_quiet_want
            go_big_quiet_op
            go_big_quiet_on
            go_big_quiet_want
            go_big_quiet_op
            go_big_quiet_on
            go_big_quiet_want
            apply Exists.intro
            refine ⟨fun u hu => ?_, ?_⟩
            · obtain ⟨hu0, hu1, hu2⟩ := hu
              unfold Oper.quietAt
              go_simp
              try rfl
            simp only [Act.put, List.setIfInBounds_toArray, List.set_cons_zero, List.set_cons_succ]
            go_big_quiet_on
            go_big_quiet_want
            apply Exists.intro
            refine ⟨fun u hu => ?_, ?_⟩
            · obtain ⟨hu0, hu1, hu2⟩ := hu
              unfold Oper.quietAt
              go_simp
              try rfl
            simp only [Act.put, List.setIfInBounds_toArray, List.set_cons_zero, List.set_cons_succ]
            go_big_quiet_on
            go_big_quiet_want
            apply Exists.intro
            refine ⟨fun u hu => ?_, ?_⟩
            · obtain ⟨hu0, hu1, hu2⟩ := hu
              unfold Oper.quietAt
              go_simp
              try rfl
            simp only [Act.put, List.setIfInBounds_toArray, List.set_cons_zero, List.set_cons_succ]
            go_big_quiet_on
            go_big_quiet_want
            apply Exists.intro
            refine ⟨fun u hu => ?_, ?_⟩
            · obtain ⟨hu0, hu1, hu2⟩ := hu
              unfold Oper.quietAt
              go_simp
              try rfl
            simp only [Act.put, List.setIfInBounds_toArray, List.set_cons_zero, List.set_cons_succ]
            go_big_quiet_on
            go_big_quiet_want
            apply Exists.intro
            refine ⟨fun u hu => ?_, ?_⟩
            · obtain ⟨hu0, hu1, hu2⟩ := hu
              unfold Oper.quietAt
              go_simp
              try rfl
            simp only [Act.put, List.setIfInBounds_toArray, List.set_cons_zero, List.set_cons_succ]
            go_big_quiet_on
            go_big_quiet_want
            go_big_quiet_op
            go_big_quiet_on
            go_big_quiet_want
            go_big_quiet_op
            go_big_quiet_on
            go_big_quiet_want
            go_big_quiet_op
            go_big_quiet_on
            go_big_quiet_want
            go_big_quiet_op
            go_big_quiet_on
            go_big_quiet_want
            refine ⟨.bool h9, fun u hu => ?_, ?_⟩
            · obtain ⟨hu0, hu1, hu2⟩ := hu
              unfold Oper.quietAt
              go_simp
              refine (specHaveMet_any hl (by omega) hs ((hr.below hu0).more hu0.size)).mono ?_
              rintro e u9 ⟨he, rfl⟩
              rw [HH.out] at he
              exact ⟨he, KE _ hu0⟩
            simp only [Act.put, List.setIfInBounds_toArray, List.set_cons_zero, List.set_cons_succ]
            go_big_quiet_on
            go_big_quiet_want
            apply Exists.intro
            refine ⟨fun u hu => ?_, ?_⟩
            · obtain ⟨hu0, hu1, hu2⟩ := hu
              unfold Oper.quietAt
              go_simp
              try rfl
            simp only [Act.put, List.setIfInBounds_toArray, List.set_cons_zero, List.set_cons_succ]
            go_big_quiet_on
            go_big_quiet_want
            apply Exists.intro
            refine ⟨fun u hu => ?_, ?_⟩
            · obtain ⟨hu0, hu1, hu2⟩ := hu
              unfold Oper.quietAt
              go_simp
              try rfl
            simp only [Act.put, List.setIfInBounds_toArray, List.set_cons_zero, List.set_cons_succ]
            go_big_quiet_on
            go_big_quiet_want
            go_big_quiet_op
            go_big_quiet_on
            refine wpQuiet_nil ?_
            rintro u3 ⟨k8, _⟩
            go_wp2_with fail
            go_ret
            exact ⟨ret_b HV2.out.symm, k8⟩
def twsN (X : List Tm) : Int := if atB X then (X.map Tm.wins).sum else 0
theorem tws_no {X : List Tm} (h : atB X = false) : twsN X = 0 := by unfold twsN; rw [h]; rfl
theorem tws_yes {X : List Tm} (h : atB X = true) : twsN X = (X.map Tm.wins).sum := by unfold twsN; rw [h]; rfl
def wsum (X : List Tm) (k : Nat) : Int := ((X.take k).map Tm.wins).sum
theorem wsum_succ {X : List Tm} {k : Nat} (h : k < X.length) : wsum X (k + 1) = wsum X k + X[k].wins := by
  unfold wsum
  rw [List.take_succ_eq_append_getElem h, List.map_append, List.sum_append, List.map_cons, List.map_nil, List.sum_singleton]
theorem te_wins {X : List Tm} (h : atB X = true) {k : Nat} (hk : k < X.length) : 0 ≤ X[k].wins ∧ X[k].wins ≤ 20 := by
  have h1 := (te_at h hk).1
  unfold tmP inr at h1
  simp only [Bool.and_eq_true, decide_eq_true_eq] at h1
  omega
theorem wsum_b {X : List Tm} (h : atB X = true) : ∀ k, k ≤ X.length → 0 ≤ wsum X k ∧ wsum X k ≤ 20 * k
  | 0, _ => by simp [wsum]
  | k + 1, hk => by
    have h1 := wsum_b h k (by omega)
    have h2 := te_wins h (show k < X.length by omega)
    rw [wsum_succ (by omega)]
    omega
theorem wsum_all {X : List Tm} {n : Nat} (h : X.length = n) : wsum X n = (X.map Tm.wins).sum := by unfold wsum; rw [List.take_of_length_le (by omega)]
set_option maxHeartbeats 4000000 in
theorem impTotalWins_any {w : World} {A : Option Addr} {n c : Nat} {X : List Tm} (hl : Hid (X.length = n)) (hn : n ≤ 1048576) (hs : Hid (∀ x ∈ X, x.met.length ≤ 1048576)) (hok : Hid (∀ x ∈ X, x.ok)) (hr : RdT w w.heap.size A X) :
    Calls Try.prog 26 #[.slice A n c] w (fun e w' => e = .returned (.int .i64 (twsN X)) ∧ Below w.heap.size w w') := by
  cases hT : atB X with
  | false =>
    have HV := Lib.hid (tws_no hT)
    have HT := Lib.hid hT
    clear hT
    go_enter Try.func26, Try.ntmps26
    go_wp2_with fail
    refine (impAreTeams_any hl hn hs hok hr).mono ?_
    rintro e w1 ⟨rfl, b1⟩
    rw [HT.out]
    go_wp2_with fail
    go_ret
    exact ⟨ret_i HV.out.symm, b1⟩
  | true =>
    have HV := Lib.hid (tws_yes hT)
    have HT := Lib.hid hT
    have hlen := te_len hT
    rw [hl.out] at hlen
    clear hT
    go_enter Try.func26, Try.ntmps26
    go_wp2_with fail
    refine (impAreTeams_any hl hn hs hok hr).mono ?_
    rintro e w1 ⟨rfl, b1⟩
    rw [HT.out]
    go_wp2_with fail
    go_loopw [3, 11] (fun s i wr => ∃ (k : Nat) (t : Int), k ≤ n ∧ i = .int .i64 k ∧ s = .int .i64 t ∧ Hid (wsum X k = t) ∧ Below w.heap.size w wr) (fun _ i _ => n - (intOf i).toNat)
    case atStart => exact ⟨0, 0, Nat.zero_le _, rfl, rfl, Lib.hid rfl, b1⟩
    case round =>
      obtain ⟨k, t, hk, rfl, rfl, ht, hb⟩ := hrel
      by_cases hlt : k < n
      · have hkz : k < X.length := by rw [hl.out]; exact hlt
        obtain ⟨ad, p, rfl, hp, hab, Aj, cj, h0, h1, h2, h3, h4, h5, _, _, _⟩ := ((hr.below hb).more hb.size).at_ hkz
        have i0 : (0 : Int) ≤ (k : Int) := by omega
        have i1 : (k : Int) < (n : Int) := by omega
        have HS := Lib.hid (wsum_succ hkz)
        have hb1 := wsum_b HT.out k (by omega)
        have hb2 := te_wins HT.out hkz
        rw [ht.out] at hb1
        obtain ⟨x, hx⟩ : ∃ x, x = X[k] := ⟨_, rfl⟩
        rw [← hx] at h0 h1 h2 h3 h4 h5 hb2 HS
        have HP := Lib.hid (show wsum X (k + 1) = t + x.wins by rw [HS.out, ht.out])
        have ww := IntWalk.i64_in (t + x.wins) (by omega)
        have b2 := alloc_m wr (Obj.cells #[Value.int .i64 x.id, .int .i64 x.club, .int .i64 x.wins, .int .i64 x.pts, .int .i64 x.firsts, .slice Aj x.met.length cj] 82)
        have bx := Bx.made wr 82 #[Value.int .i64 x.id, .int .i64 x.club, .int .i64 x.wins, .int .i64 x.pts, .int .i64 x.firsts, .slice Aj x.met.length cj]
        obtain ⟨W1, hW⟩ : ∃ W1, wr.alloc (Obj.cells #[Value.int .i64 x.id, .int .i64 x.club, .int .i64 x.wins, .int .i64 x.pts, .int .i64 x.firsts, .slice Aj x.met.length cj] 82) = W1 := ⟨_, rfl⟩
        rw [hW] at bx b2
        have HW := Lib.hid hW
        have c2 := bx.at_ (k := 2) (v := .int .i64 x.wins) rfl
        have hb5 := hb.trans (b2.mono hb.size)
        clear hx hW bx
        go_wp2_with fail
        rw [HW.out]
        try (go_wp2_with fail)
        go_roundw
        case rel => exact ⟨k + 1, t + x.wins, by omega, by go_num, by first | rfl | go_num, HP, hb5⟩
        case measure => simp [intOf]; omega
      · have e : k = n := by omega
        subst e
        have HQ := Lib.hid (show t = twsN X by rw [HV.out, ← ht.out, wsum_all hl.out])
        go_wp2_with fail
        go_ret
        exact ⟨ret_i HQ.out, hb⟩
set_option maxHeartbeats 4000000 in
theorem specTotalWins_any {w : World} {A : Option Addr} {n c : Nat} {X : List Tm} (hl : Hid (X.length = n)) (hn : n ≤ 1048576) (hs : Hid (∀ x ∈ X, x.met.length ≤ 1048576)) (hr : RdT w w.heap.size A X) :
    Calls Try.prog 25 #[.slice A n c] w (fun e w' => e = .returned (.int .i64 (twsN X)) ∧ Below w.heap.size w w') := by
  cases hT : atB X with
  | false =>
    have HV := Lib.hid (tws_no hT)
    have HT := Lib.hid hT
    clear hT
    by_cases h0 : n = 0
    · subst h0
      go_enter Try.func25, Try.ntmps25
      go_wp2_with fail
      go_loopw [3, 4] (fun s i wr => s = .int .i64 0 ∧ i = .int .i64 0 ∧ wr = w) (fun _ i _ => 0)
      case atStart => exact ⟨rfl, rfl, rfl⟩
      case round =>
        obtain ⟨rfl, rfl, rfl⟩ := hrel
        go_wp2_with fail
        go_ret
        exact ⟨ret_i HV.out.symm, Below.refl _ _⟩
    · have hp : (0 : Int) < (n : Int) := by omega
      have hp' : 0 < n := by omega
      have dp : decide ((0 : Int) < (n : Int)) = true := decide_eq_true hp
      go_enter Try.func25, Try.ntmps25
      go_wp2_with fail
      go_loopw [3, 4] (fun s i wr => s = .int .i64 0 ∧ i = .int .i64 0 ∧ wr = w) (fun _ i _ => 0)
      case atStart => exact ⟨rfl, rfl, rfl⟩
      case round =>
        obtain ⟨rfl, rfl, rfl⟩ := hrel
        go_wp2_with fail
        refine (specAreTeams_any hl hn hs hr).mono ?_
        rintro e w1 ⟨rfl, b1⟩
        rw [HT.out]
        go_wp2_with fail
        go_ret
        exact ⟨ret_i HV.out.symm, b1⟩
  | true =>
    have HV := Lib.hid (tws_yes hT)
    have HT := Lib.hid hT
    have hlen := te_len hT
    rw [hl.out] at hlen
    clear hT
    go_enter Try.func25, Try.ntmps25
    go_wp2_with fail
    go_loopw [3, 4] (fun s i wr => ∃ (k : Nat) (t : Int), k ≤ n ∧ i = .int .i64 k ∧ s = .int .i64 t ∧ Hid (wsum X k = t) ∧ Below w.heap.size w wr) (fun _ i _ => n - (intOf i).toNat)
    case atStart => exact ⟨0, 0, Nat.zero_le _, rfl, rfl, Lib.hid rfl, Below.refl _ _⟩
    case round =>
      obtain ⟨k, t, hk, rfl, rfl, ht, hb⟩ := hrel
      by_cases hlt : k < n
      · have hkz : k < X.length := by rw [hl.out]; exact hlt
        have hrw := (hr.below hb).more hb.size
        have i0 : (0 : Int) ≤ (k : Int) := by omega
        have i1 : (k : Int) < (n : Int) := by omega
        have di : decide ((k : Int) < (n : Int)) = true := decide_eq_true i1
        have HS := Lib.hid (wsum_succ hkz)
        have hb1 := wsum_b HT.out k (by omega)
        have hb2 := te_wins HT.out hkz
        rw [ht.out] at hb1
        go_wp2_with fail
        refine (specAreTeams_any hl hn hs hrw).mono ?_
        rintro e w1 ⟨rfl, b1⟩
        rw [HT.out]
        obtain ⟨ad, p, rfl, hp, hab, Aj, cj, h0, h1, h2, _⟩ := ((hrw.below b1).more b1.size).at_ hkz
        obtain ⟨x, hx⟩ : ∃ x, x = X[k] := ⟨_, rfl⟩
        rw [← hx] at h2 hb2 HS
        have HP := Lib.hid (show wsum X (k + 1) = t + x.wins by rw [HS.out, ht.out])
        have ww := IntWalk.i64_in (t + x.wins) (by omega)
        have hb5 := hb.trans (b1.mono hb.size)
        clear hx
        go_wp2_with fail
        go_roundw
        case rel => exact ⟨k + 1, t + x.wins, by omega, by go_num, by first | rfl | go_num, HP, hb5⟩
        case measure => simp [intOf]; omega
      · have e : k = n := by omega
        subst e
        have HQ := Lib.hid (show t = twsN X by rw [HV.out, ← ht.out, wsum_all hl.out])
        go_wp2_with fail
        go_ret
        exact ⟨ret_i HQ.out, hb⟩
end Go.Proofs.Ythkigilegnjglaa
