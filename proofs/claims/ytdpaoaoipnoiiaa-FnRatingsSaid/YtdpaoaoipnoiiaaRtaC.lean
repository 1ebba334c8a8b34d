/- Contracts of the code's isResult, rateDebate and RateAll (chapter 25). Condition: the slices have at most 2^40 elements, of 64 bits each. -/
import Derived.Test.YtdpaoaoipnoiiaaRtaMath
import Derived.Test.YtdpaoaoipnoiiaaDuo
import Derived.Test.YtdpaoaoipnoiiaaClone
import Derived.Test.YtdpaoaoipnoiiaaGraphFns
import Derived.BigQuiet
import Derived.Deep.Quiet
namespace Go.Proofs.Ytdpaoaoipnoiiaa
open Go.ChangeShapes Go.WideShapes Go.ChangeAt Go.RowKit
set_option maxRecDepth 100000
theorem wf64 {a : Int} (h : -9223372036854775808 ≤ a ∧ a ≤ 9223372036854775807) : (Lit.int .i64 a).wf = true := by
  have e1 : IntKind.i64.min = -9223372036854775808 := by decide
  have e2 : IntKind.i64.max = 9223372036854775807 := by decide
  simp [Lit.wf, e1, e2]
  exact h
theorem w64_of {Z : List Int} (h : ∀ x ∈ Z, IntKind.i64.min ≤ x ∧ x ≤ IntKind.i64.max) : W64 Z := fun x hx => by
  have := h x hx
  have e1 : IntKind.i64.min = -9223372036854775808 := by decide
  have e2 : IntKind.i64.max = 9223372036854775807 := by decide
  omega
theorem nw_c {w w' : World} {p : Addr} {v : Value} (r : Below w.heap.size w w') (h : w.cell? p = some v) : w'.cell? p = some v := (r.cell (p := p) (cell_lt h)).trans h
theorem isResult1_any {w : World} {g : Nat} {x : Int} {n : Nat} (hn : n ≤ 1099511627776) (hc : w.cell? ⟨g, 0, none⟩ = some (.int .i64 (n : Int))) :
    Calls Try.prog 78 #[.int .i64 x, .pointer (some ⟨g, 0, none⟩)] w (fun e w' => e = .returned (.bool (inr x 0 ((n : Int) - 1))) ∧ w = w') := by
  have ww := IntWalk.i64_in ((n : Int) - 1) (by omega)
  go_enter Try.func78, Try.ntmps78
  go_wp2_with fail
  refine (inRange_any _ _ _ _).mono ?_
  rintro e u ⟨rfl, rfl⟩
  go_wp2_with fail
  go_ret
  exact ⟨rfl, rfl⟩
set_option maxHeartbeats 4000000 in
theorem isResult_any {w : World} {A : Option Addr} {c n : Nat} {r : List Int} (hn : n ≤ 1099511627776) (hl : r.length ≤ 1099511627776) (hr : Rd w w.heap.size A (ivs r)) :
    Calls Try.prog 56 #[.slice A r.length c, .int .i64 (n : Int)] w (Tells (isRb r n) w) := by
  have bA := alloc_r w (Obj.cells #[.int .i64 (n : Int)] 3)
  have bx := Bx.made w 3 #[.int .i64 (n : Int)]
  obtain ⟨W1, hW⟩ : ∃ W1, w.alloc (Obj.cells #[Value.int .i64 (n : Int)] 3) = W1 := ⟨_, rfl⟩
  rw [hW] at bx bA
  have HW := Lib.hid hW
  have HBA := Lib.hid bA
  have HC := Lib.hid (bx.at_ (k := 0) (v := .int .i64 (n : Int)) rfl)
  have HR := Lib.hid ((hr.below bA).more bA.size)
  clear hW bx bA hr
  by_cases h2 : r.length = 2
  · obtain ⟨p, q, rfl⟩ : ∃ p q, r = [p, q] := by
      match r, h2 with
      | [p, q], _ => exact ⟨p, q, rfl⟩
    obtain ⟨ag, ao, rfl, hab, e0, e1⟩ := rd2 HR.out
    have HV0 := Lib.hid (show isRb [p, q] n = (inr p 0 ((n : Int) - 1) && inr q 0 ((n : Int) - 1) && !(p == q)) by simp [isRb])
    have KE := fun (u : World) (r : Below W1.heap.size W1 u) => show Below W1.heap.size W1 u ∧ u.cell? ⟨w.heap.size, 0, none⟩ = some (.int .i64 (n : Int)) ∧ u.cell? ⟨ag, ao, none⟩ = some (.int .i64 p) ∧ u.cell? ⟨ag, ao + 1, none⟩ = some (.int .i64 q) from ⟨r, nw_c r HC.out, nw_c r e0, nw_c r e1⟩
    rw [show ([p, q] : List Int).length = 2 from rfl]
    have H2 := Lib.hid h2
    clear h2 e0 e1
    cases q1 : inr p 0 ((n : Int) - 1) with
    | false =>
      have HV := Lib.hid (show isRb [p, q] n = false by rw [HV0.out, q1]; rfl)
      have HQ := Lib.hid q1
      clear q1
      go_enter Try.func56, Try.ntmps56
      go_wp2_with fail
      rw [HW.out]
      try (go_wp2_with fail)
      refine wp_region_quiet (C := fun u => Below W1.heap.size W1 u ∧ u.cell? ⟨w.heap.size, 0, none⟩ = some (.int .i64 (n : Int)) ∧ u.cell? ⟨ag, ao, none⟩ = some (.int .i64 p) ∧ u.cell? ⟨ag, ao + 1, none⟩ = some (.int .i64 q)) (by kernel_rfl) (by kernel_rfl) (KE _ (Below.refl _ _).drew) ?_
      rw [List.toList_toArray]
      go_big_quiet_want
      go_big_quiet_op
      go_big_quiet_on
      go_big_quiet_want
      apply Exists.intro
      refine ⟨fun u hu => ?_, ?_⟩
      · obtain ⟨hu0, hu1, hu2, hu3⟩ := hu
        unfold Oper.quietAt
        go_simp
        try rfl
      simp only [Act.put, List.setIfInBounds_toArray, List.set_cons_zero, List.set_cons_succ]
      go_big_quiet_on
      go_big_quiet_want
      apply Exists.intro
      refine ⟨fun u hu => ?_, ?_⟩
      · obtain ⟨hu0, hu1, hu2, hu3⟩ := hu
        unfold Oper.quietAt
        go_simp
        try rfl
      simp only [Act.put, List.setIfInBounds_toArray, List.set_cons_zero, List.set_cons_succ]
      go_big_quiet_on
      go_big_quiet_want
      go_big_quiet_op
      go_big_quiet_on
      go_big_quiet_want
      go_big_quiet_op
      go_big_quiet_on
      go_big_quiet_want
      go_big_quiet_op
      go_big_quiet_on
      go_big_quiet_want
      apply Exists.intro
      refine ⟨fun u hu => ?_, ?_⟩
      · obtain ⟨hu0, hu1, hu2, hu3⟩ := hu
        unfold Oper.quietAt
        go_simp
        try rfl
      simp only [Act.put, List.setIfInBounds_toArray, List.set_cons_zero, List.set_cons_succ]
      go_big_quiet_on
      go_big_quiet_want
      apply Exists.intro
      refine ⟨fun u hu => ?_, ?_⟩
      · obtain ⟨hu0, hu1, hu2, hu3⟩ := hu
        unfold Oper.quietAt
        go_simp
        try rfl
      simp only [Act.put, List.setIfInBounds_toArray, List.set_cons_zero, List.set_cons_succ]
      go_big_quiet_on
      go_big_quiet_want
      refine ⟨.bool false, fun u hu => ?_, ?_⟩
      · obtain ⟨hu0, hu1, hu2, hu3⟩ := hu
        unfold Oper.quietAt
        go_simp
        refine (isResult1_any hn hu1).mono ?_
        rintro e u9 ⟨rfl, rfl⟩
        rw [HQ.out]
        exact ⟨rfl, ⟨hu0, hu1, hu2, hu3⟩⟩
      simp only [Act.put, List.setIfInBounds_toArray, List.set_cons_zero, List.set_cons_succ]
      go_big_quiet_on
      go_big_quiet_want
      apply Exists.intro
      refine ⟨fun u hu => ?_, ?_⟩
      · obtain ⟨hu0, hu1, hu2, hu3⟩ := hu
        unfold Oper.quietAt
        go_simp
        try rfl
      simp only [Act.put, List.setIfInBounds_toArray, List.set_cons_zero, List.set_cons_succ]
      go_big_quiet_on
      go_big_quiet_want
      go_big_quiet_op
      go_big_quiet_on
      repeat go_big_quiet_skip
      go_big_quiet_want
      apply Exists.intro
      refine ⟨fun u hu => ?_, ?_⟩
      · obtain ⟨hu0, hu1, hu2, hu3⟩ := hu
        unfold Oper.quietAt
        go_simp
        try rfl
      simp only [Act.put, List.setIfInBounds_toArray, List.set_cons_zero, List.set_cons_succ]
      go_big_quiet_on
      go_big_quiet_want
      go_big_quiet_op
      go_big_quiet_on
      repeat go_big_quiet_skip
      go_big_quiet_want
      apply Exists.intro
      refine ⟨fun u hu => ?_, ?_⟩
      · obtain ⟨hu0, hu1, hu2, hu3⟩ := hu
        unfold Oper.quietAt
        go_simp
        try rfl
      simp only [Act.put, List.setIfInBounds_toArray, List.set_cons_zero, List.set_cons_succ]
      go_big_quiet_on
      go_big_quiet_want
      apply Exists.intro
      refine ⟨fun u hu => ?_, ?_⟩
      · obtain ⟨hu0, hu1, hu2, hu3⟩ := hu
        unfold Oper.quietAt
        go_simp
        try rfl
      simp only [Act.put, List.setIfInBounds_toArray, List.set_cons_zero, List.set_cons_succ]
      go_big_quiet_on
      refine wpQuiet_nil ?_
      rintro u ⟨r, _⟩
      go_wp2_with fail
      go_ret
      exact ⟨ret_b HV.out.symm, trans_new HBA.out r⟩
    | true =>
      cases q2 : inr q 0 ((n : Int) - 1) with
      | false =>
        have HV := Lib.hid (show isRb [p, q] n = false by rw [HV0.out, q1, q2]; rfl)
        have HQ := Lib.hid q1
        have HS := Lib.hid q2
        clear q1 q2
        go_enter Try.func56, Try.ntmps56
        go_wp2_with fail
        rw [HW.out]
        try (go_wp2_with fail)
        refine wp_region_quiet (C := fun u => Below W1.heap.size W1 u ∧ u.cell? ⟨w.heap.size, 0, none⟩ = some (.int .i64 (n : Int)) ∧ u.cell? ⟨ag, ao, none⟩ = some (.int .i64 p) ∧ u.cell? ⟨ag, ao + 1, none⟩ = some (.int .i64 q)) (by kernel_rfl) (by kernel_rfl) (KE _ (Below.refl _ _).drew) ?_
        rw [List.toList_toArray]
        go_big_quiet_want
        go_big_quiet_op
        go_big_quiet_on
        go_big_quiet_want
        apply Exists.intro
        refine ⟨fun u hu => ?_, ?_⟩
        · obtain ⟨hu0, hu1, hu2, hu3⟩ := hu
          unfold Oper.quietAt
          go_simp
          try rfl
        simp only [Act.put, List.setIfInBounds_toArray, List.set_cons_zero, List.set_cons_succ]
        go_big_quiet_on
        go_big_quiet_want
        apply Exists.intro
        refine ⟨fun u hu => ?_, ?_⟩
        · obtain ⟨hu0, hu1, hu2, hu3⟩ := hu
          unfold Oper.quietAt
          go_simp
          try rfl
        simp only [Act.put, List.setIfInBounds_toArray, List.set_cons_zero, List.set_cons_succ]
        go_big_quiet_on
        go_big_quiet_want
        go_big_quiet_op
        go_big_quiet_on
        go_big_quiet_want
        go_big_quiet_op
        go_big_quiet_on
        go_big_quiet_want
        go_big_quiet_op
        go_big_quiet_on
        go_big_quiet_want
        apply Exists.intro
        refine ⟨fun u hu => ?_, ?_⟩
        · obtain ⟨hu0, hu1, hu2, hu3⟩ := hu
          unfold Oper.quietAt
          go_simp
          try rfl
        simp only [Act.put, List.setIfInBounds_toArray, List.set_cons_zero, List.set_cons_succ]
        go_big_quiet_on
        go_big_quiet_want
        apply Exists.intro
        refine ⟨fun u hu => ?_, ?_⟩
        · obtain ⟨hu0, hu1, hu2, hu3⟩ := hu
          unfold Oper.quietAt
          go_simp
          try rfl
        simp only [Act.put, List.setIfInBounds_toArray, List.set_cons_zero, List.set_cons_succ]
        go_big_quiet_on
        go_big_quiet_want
        refine ⟨.bool true, fun u hu => ?_, ?_⟩
        · obtain ⟨hu0, hu1, hu2, hu3⟩ := hu
          unfold Oper.quietAt
          go_simp
          refine (isResult1_any hn hu1).mono ?_
          rintro e u9 ⟨rfl, rfl⟩
          rw [HQ.out]
          exact ⟨rfl, ⟨hu0, hu1, hu2, hu3⟩⟩
        simp only [Act.put, List.setIfInBounds_toArray, List.set_cons_zero, List.set_cons_succ]
        go_big_quiet_on
        go_big_quiet_want
        apply Exists.intro
        refine ⟨fun u hu => ?_, ?_⟩
        · obtain ⟨hu0, hu1, hu2, hu3⟩ := hu
          unfold Oper.quietAt
          go_simp
          try rfl
        simp only [Act.put, List.setIfInBounds_toArray, List.set_cons_zero, List.set_cons_succ]
        go_big_quiet_on
        go_big_quiet_want
        go_big_quiet_op
        go_big_quiet_on
        go_big_quiet_want
        go_big_quiet_op
        go_big_quiet_on
        go_big_quiet_want
        go_big_quiet_op
        go_big_quiet_on
        go_big_quiet_want
        apply Exists.intro
        refine ⟨fun u hu => ?_, ?_⟩
        · obtain ⟨hu0, hu1, hu2, hu3⟩ := hu
          unfold Oper.quietAt
          go_simp
          try rfl
        simp only [Act.put, List.setIfInBounds_toArray, List.set_cons_zero, List.set_cons_succ]
        go_big_quiet_on
        go_big_quiet_want
        apply Exists.intro
        refine ⟨fun u hu => ?_, ?_⟩
        · obtain ⟨hu0, hu1, hu2, hu3⟩ := hu
          unfold Oper.quietAt
          go_simp
          try rfl
        simp only [Act.put, List.setIfInBounds_toArray, List.set_cons_zero, List.set_cons_succ]
        go_big_quiet_on
        go_big_quiet_want
        refine ⟨.bool false, fun u hu => ?_, ?_⟩
        · obtain ⟨hu0, hu1, hu2, hu3⟩ := hu
          unfold Oper.quietAt
          go_simp
          refine (isResult1_any hn hu1).mono ?_
          rintro e u9 ⟨rfl, rfl⟩
          rw [HS.out]
          exact ⟨rfl, ⟨hu0, hu1, hu2, hu3⟩⟩
        simp only [Act.put, List.setIfInBounds_toArray, List.set_cons_zero, List.set_cons_succ]
        go_big_quiet_on
        go_big_quiet_want
        apply Exists.intro
        refine ⟨fun u hu => ?_, ?_⟩
        · obtain ⟨hu0, hu1, hu2, hu3⟩ := hu
          unfold Oper.quietAt
          go_simp
          try rfl
        simp only [Act.put, List.setIfInBounds_toArray, List.set_cons_zero, List.set_cons_succ]
        go_big_quiet_on
        go_big_quiet_want
        go_big_quiet_op
        go_big_quiet_on
        repeat go_big_quiet_skip
        go_big_quiet_want
        apply Exists.intro
        refine ⟨fun u hu => ?_, ?_⟩
        · obtain ⟨hu0, hu1, hu2, hu3⟩ := hu
          unfold Oper.quietAt
          go_simp
          try rfl
        simp only [Act.put, List.setIfInBounds_toArray, List.set_cons_zero, List.set_cons_succ]
        go_big_quiet_on
        go_big_quiet_want
        apply Exists.intro
        refine ⟨fun u hu => ?_, ?_⟩
        · obtain ⟨hu0, hu1, hu2, hu3⟩ := hu
          unfold Oper.quietAt
          go_simp
          try rfl
        simp only [Act.put, List.setIfInBounds_toArray, List.set_cons_zero, List.set_cons_succ]
        go_big_quiet_on
        refine wpQuiet_nil ?_
        rintro u ⟨r, _⟩
        go_wp2_with fail
        go_ret
        exact ⟨ret_b HV.out.symm, trans_new HBA.out r⟩
      | true =>
        obtain ⟨b, hb⟩ : ∃ b, (p != q) = b := ⟨_, rfl⟩
        have HV := Lib.hid (show isRb [p, q] n = b by rw [HV0.out, q1, q2, ← hb]; simp [bne])
        have HQ := Lib.hid q1
        have HS := Lib.hid q2
        clear q1 q2
        go_enter Try.func56, Try.ntmps56
        go_wp2_with fail
        rw [HW.out]
        try (go_wp2_with fail)
        refine wp_region_quiet (C := fun u => Below W1.heap.size W1 u ∧ u.cell? ⟨w.heap.size, 0, none⟩ = some (.int .i64 (n : Int)) ∧ u.cell? ⟨ag, ao, none⟩ = some (.int .i64 p) ∧ u.cell? ⟨ag, ao + 1, none⟩ = some (.int .i64 q)) (by kernel_rfl) (by kernel_rfl) (KE _ (Below.refl _ _).drew) ?_
        rw [List.toList_toArray]
        go_big_quiet_want
        go_big_quiet_op
        go_big_quiet_on
        go_big_quiet_want
        apply Exists.intro
        refine ⟨fun u hu => ?_, ?_⟩
        · obtain ⟨hu0, hu1, hu2, hu3⟩ := hu
          unfold Oper.quietAt
          go_simp
          try rfl
        simp only [Act.put, List.setIfInBounds_toArray, List.set_cons_zero, List.set_cons_succ]
        go_big_quiet_on
        go_big_quiet_want
        apply Exists.intro
        refine ⟨fun u hu => ?_, ?_⟩
        · obtain ⟨hu0, hu1, hu2, hu3⟩ := hu
          unfold Oper.quietAt
          go_simp
          try rfl
        simp only [Act.put, List.setIfInBounds_toArray, List.set_cons_zero, List.set_cons_succ]
        go_big_quiet_on
        go_big_quiet_want
        go_big_quiet_op
        go_big_quiet_on
        go_big_quiet_want
        go_big_quiet_op
        go_big_quiet_on
        go_big_quiet_want
        go_big_quiet_op
        go_big_quiet_on
        go_big_quiet_want
        apply Exists.intro
        refine ⟨fun u hu => ?_, ?_⟩
        · obtain ⟨hu0, hu1, hu2, hu3⟩ := hu
          unfold Oper.quietAt
          go_simp
          try rfl
        simp only [Act.put, List.setIfInBounds_toArray, List.set_cons_zero, List.set_cons_succ]
        go_big_quiet_on
        go_big_quiet_want
        apply Exists.intro
        refine ⟨fun u hu => ?_, ?_⟩
        · obtain ⟨hu0, hu1, hu2, hu3⟩ := hu
          unfold Oper.quietAt
          go_simp
          try rfl
        simp only [Act.put, List.setIfInBounds_toArray, List.set_cons_zero, List.set_cons_succ]
        go_big_quiet_on
        go_big_quiet_want
        refine ⟨.bool true, fun u hu => ?_, ?_⟩
        · obtain ⟨hu0, hu1, hu2, hu3⟩ := hu
          unfold Oper.quietAt
          go_simp
          refine (isResult1_any hn hu1).mono ?_
          rintro e u9 ⟨rfl, rfl⟩
          rw [HQ.out]
          exact ⟨rfl, ⟨hu0, hu1, hu2, hu3⟩⟩
        simp only [Act.put, List.setIfInBounds_toArray, List.set_cons_zero, List.set_cons_succ]
        go_big_quiet_on
        go_big_quiet_want
        apply Exists.intro
        refine ⟨fun u hu => ?_, ?_⟩
        · obtain ⟨hu0, hu1, hu2, hu3⟩ := hu
          unfold Oper.quietAt
          go_simp
          try rfl
        simp only [Act.put, List.setIfInBounds_toArray, List.set_cons_zero, List.set_cons_succ]
        go_big_quiet_on
        go_big_quiet_want
        go_big_quiet_op
        go_big_quiet_on
        go_big_quiet_want
        go_big_quiet_op
        go_big_quiet_on
        go_big_quiet_want
        go_big_quiet_op
        go_big_quiet_on
        go_big_quiet_want
        apply Exists.intro
        refine ⟨fun u hu => ?_, ?_⟩
        · obtain ⟨hu0, hu1, hu2, hu3⟩ := hu
          unfold Oper.quietAt
          go_simp
          try rfl
        simp only [Act.put, List.setIfInBounds_toArray, List.set_cons_zero, List.set_cons_succ]
        go_big_quiet_on
        go_big_quiet_want
        apply Exists.intro
        refine ⟨fun u hu => ?_, ?_⟩
        · obtain ⟨hu0, hu1, hu2, hu3⟩ := hu
          unfold Oper.quietAt
          go_simp
          try rfl
        simp only [Act.put, List.setIfInBounds_toArray, List.set_cons_zero, List.set_cons_succ]
        go_big_quiet_on
        go_big_quiet_want
        refine ⟨.bool true, fun u hu => ?_, ?_⟩
        · obtain ⟨hu0, hu1, hu2, hu3⟩ := hu
          unfold Oper.quietAt
          go_simp
          refine (isResult1_any hn hu1).mono ?_
          rintro e u9 ⟨rfl, rfl⟩
          rw [HS.out]
          exact ⟨rfl, ⟨hu0, hu1, hu2, hu3⟩⟩
        simp only [Act.put, List.setIfInBounds_toArray, List.set_cons_zero, List.set_cons_succ]
        go_big_quiet_on
        go_big_quiet_want
        apply Exists.intro
        refine ⟨fun u hu => ?_, ?_⟩
        · obtain ⟨hu0, hu1, hu2, hu3⟩ := hu
          unfold Oper.quietAt
          go_simp
          try rfl
        simp only [Act.put, List.setIfInBounds_toArray, List.set_cons_zero, List.set_cons_succ]
        go_big_quiet_on
        go_big_quiet_want
        go_big_quiet_op
        go_big_quiet_on
        go_big_quiet_want
        go_big_quiet_op
        go_big_quiet_on
        go_big_quiet_want
        apply Exists.intro
        refine ⟨fun u hu => ?_, ?_⟩
        · obtain ⟨hu0, hu1, hu2, hu3⟩ := hu
          unfold Oper.quietAt
          go_simp
          try rfl
        simp only [Act.put, List.setIfInBounds_toArray, List.set_cons_zero, List.set_cons_succ]
        go_big_quiet_on
        go_big_quiet_want
        apply Exists.intro
        refine ⟨fun u hu => ?_, ?_⟩
        · obtain ⟨hu0, hu1, hu2, hu3⟩ := hu
          unfold Oper.quietAt
          go_simp
          try rfl
        simp only [Act.put, List.setIfInBounds_toArray, List.set_cons_zero, List.set_cons_succ]
        go_big_quiet_on
        go_big_quiet_want
        go_big_quiet_op
        go_big_quiet_on
        go_big_quiet_want
        apply Exists.intro
        refine ⟨fun u hu => ?_, ?_⟩
        · obtain ⟨hu0, hu1, hu2, hu3⟩ := hu
          unfold Oper.quietAt
          go_simp
          try rfl
        simp only [Act.put, List.setIfInBounds_toArray, List.set_cons_zero, List.set_cons_succ]
        go_big_quiet_on
        go_big_quiet_want
        apply Exists.intro
        refine ⟨fun u hu => ?_, ?_⟩
        · obtain ⟨hu0, hu1, hu2, hu3⟩ := hu
          unfold Oper.quietAt
          go_simp
          try rfl
        simp only [Act.put, List.setIfInBounds_toArray, List.set_cons_zero, List.set_cons_succ]
        go_big_quiet_on
        go_big_quiet_want
        apply Exists.intro
        refine ⟨fun u hu => ?_, ?_⟩
        · obtain ⟨hu0, hu1, hu2, hu3⟩ := hu
          unfold Oper.quietAt
          go_simp
          try rfl
        simp only [Act.put, List.setIfInBounds_toArray, List.set_cons_zero, List.set_cons_succ]
        go_big_quiet_on
        go_big_quiet_want
        apply Exists.intro
        refine ⟨fun u hu => ?_, ?_⟩
        · obtain ⟨hu0, hu1, hu2, hu3⟩ := hu
          unfold Oper.quietAt
          go_simp
          try rfl
        simp only [Act.put, List.setIfInBounds_toArray, List.set_cons_zero, List.set_cons_succ]
        go_big_quiet_on
        go_big_quiet_want
        apply Exists.intro
        refine ⟨fun u hu => ?_, ?_⟩
        · obtain ⟨hu0, hu1, hu2, hu3⟩ := hu
          unfold Oper.quietAt
          go_simp
          try rfl
        simp only [Act.put, List.setIfInBounds_toArray, List.set_cons_zero, List.set_cons_succ]
        go_big_quiet_on
        refine wpQuiet_nil ?_
        rintro u ⟨r, _⟩
        go_wp2_with fail
        go_ret
        exact ⟨ret_b HV.out.symm, trans_new HBA.out r⟩
  · have HV := Lib.hid (show isRb r n = false by simp [isRb, h2])
    obtain ⟨m, hm⟩ : ∃ m, r.length = m := ⟨_, rfl⟩
    rw [hm] at h2 hl ⊢
    have h3 : ¬ ((m : Int) = 2) := by omega
    have h4 : ((m : Int) == 2) = false := by simpa using h3
    have KE := fun (u : World) (r : Below W1.heap.size W1 u) => show Below W1.heap.size W1 u ∧ True from ⟨r, trivial⟩
    clear hm h2 h3
    go_enter Try.func56, Try.ntmps56
    go_wp2_with fail
    rw [HW.out]
    try (go_wp2_with fail)
    refine wp_region_quiet (C := fun u => Below W1.heap.size W1 u ∧ True) (by kernel_rfl) (by kernel_rfl) (KE _ (Below.refl _ _).drew) ?_
    rw [List.toList_toArray]
    go_big_quiet_want
    go_big_quiet_op
    go_big_quiet_on
    go_big_quiet_want
    apply Exists.intro
    refine ⟨fun u hu => ?_, ?_⟩
    · obtain ⟨hu0, hu1⟩ := hu
      unfold Oper.quietAt
      go_simp
      try rfl
    simp only [Act.put, List.setIfInBounds_toArray, List.set_cons_zero, List.set_cons_succ]
    go_big_quiet_on
    go_big_quiet_want
    apply Exists.intro
    refine ⟨fun u hu => ?_, ?_⟩
    · obtain ⟨hu0, hu1⟩ := hu
      unfold Oper.quietAt
      go_simp
      try rfl
    simp only [Act.put, List.setIfInBounds_toArray, List.set_cons_zero, List.set_cons_succ]
    go_big_quiet_on
    go_big_quiet_want
    go_big_quiet_op
    go_big_quiet_on
    repeat go_big_quiet_skip
    go_big_quiet_want
    apply Exists.intro
    refine ⟨fun u hu => ?_, ?_⟩
    · obtain ⟨hu0, hu1⟩ := hu
      unfold Oper.quietAt
      go_simp
      try rfl
    simp only [Act.put, List.setIfInBounds_toArray, List.set_cons_zero, List.set_cons_succ]
    go_big_quiet_on
    go_big_quiet_want
    go_big_quiet_op
    go_big_quiet_on
    repeat go_big_quiet_skip
    go_big_quiet_want
    apply Exists.intro
    refine ⟨fun u hu => ?_, ?_⟩
    · obtain ⟨hu0, hu1⟩ := hu
      unfold Oper.quietAt
      go_simp
      try rfl
    simp only [Act.put, List.setIfInBounds_toArray, List.set_cons_zero, List.set_cons_succ]
    go_big_quiet_on
    go_big_quiet_want
    go_big_quiet_op
    go_big_quiet_on
    repeat go_big_quiet_skip
    go_big_quiet_want
    apply Exists.intro
    refine ⟨fun u hu => ?_, ?_⟩
    · obtain ⟨hu0, hu1⟩ := hu
      unfold Oper.quietAt
      go_simp
      try rfl
    simp only [Act.put, List.setIfInBounds_toArray, List.set_cons_zero, List.set_cons_succ]
    go_big_quiet_on
    go_big_quiet_want
    apply Exists.intro
    refine ⟨fun u hu => ?_, ?_⟩
    · obtain ⟨hu0, hu1⟩ := hu
      unfold Oper.quietAt
      go_simp
      try rfl
    simp only [Act.put, List.setIfInBounds_toArray, List.set_cons_zero, List.set_cons_succ]
    go_big_quiet_on
    refine wpQuiet_nil ?_
    rintro u ⟨r, _⟩
    go_wp2_with fail
    go_ret
    exact ⟨ret_b HV.out.symm, trans_new HBA.out r⟩
set_option maxHeartbeats 4000000 in
theorem rateDebate_any {w : World} {lo g n c i j : Nat} {Z : List Int} (h : Row w lo w.heap.size 3 (.slice (some ⟨g, 0, none⟩) n c) (ivs Z)) (hlo : lo ≤ w.heap.size) (hg : lo ≤ g) (hi : i < Z.length) (hj : j < Z.length) (hne : i ≠ j) (hw : Hid (W64 Z)) :
    Calls Try.prog 57 #[.pointer (some ⟨g, i, none⟩), .pointer (some ⟨g, j, none⟩)] w (fun e w' => e = .returned (.tuple #[]) ∧ Row w' lo w'.heap.size 3 (.slice (some ⟨g, 0, none⟩) n c) (ivs (rat1 Z [(i : Int), (j : Int)])) ∧ Below lo w w') := by
  have c0 := h.cellO hi
  have c1 := h.cellO hj
  have HV := Lib.hid (rat1_ok hi hj hne)
  have ha := hw.out _ (List.getElem_mem hi)
  have hb := hw.out _ (List.getElem_mem hj)
  obtain ⟨a, hae⟩ : ∃ a, a = Z[i] := ⟨_, rfl⟩
  obtain ⟨b, hbe⟩ : ∃ b, b = Z[j] := ⟨_, rfl⟩
  rw [← hae] at c0 ha HV
  rw [← hbe] at c1 hb HV
  have wa := wf64 ha
  have wb := wf64 hb
  obtain ⟨v, hv⟩ : ∃ v, excI a b true = v := ⟨_, rfl⟩
  have HX := Lib.hid hv
  rw [hv] at HV
  have HH := Lib.hid h
  have hgs : g < w.heap.size := by have := cell_lt c0; exact this
  clear h hae hbe hv
  go_enter Try.func57, Try.ntmps57
  go_wp2_with fail
  go_region_law (first
    | (go_simp; go_at_call 17; (with_reducible refine (impAfterDebate_any wa wb).mono ?_); rintro e w1 ⟨rfl, b1⟩; rw [HX.out]; have b2 : Below w.heap.size w w1 := (by first | exact b1 | exact (Below.refl w.heap.size w).drew.trans b1); have hrow1 := HH.out.new b2; have d0 := nw_c b2 c0; have d1 := nw_c b2 c1; have f0 := hrow1.frozO (i := i); have f1 := hrow1.frozO (i := j); have HR1 := Lib.hid hrow1; have HB2 := Lib.hid b2; clear hrow1 b2 b1))
  all_goals
    go_wp2_with fail
    go_end0
    refine ⟨rfl, ?_, ?_⟩
    · rw [HV.out, show ivs ((Z.set i (a + v)).set j (b - v)) = ((ivs Z).set i (.int .i64 (a + v))).set j (.int .i64 (b - v)) by simp [ivs, List.map_set]]
      first | exact ((HR1.out.setO (i := i) (v := .int .i64 (a + v))).setO (i := j) (v := .int .i64 (b - v))).wide (Nat.le_refl _) (by simp [World.setCell]; exact HB2.out.size)
    · exact ((HB2.out.mono hlo).setCell hg _).setCell hg _
theorem row_dr {w : World} {lo : Nat} {t : TypeId} {v : Value} {xs : List Value} (h : Row w lo w.heap.size t v xs) : Row w.drew lo w.drew.heap.size t v xs := h
theorem le_dr {w : World} {a : Nat} (h : a ≤ w.heap.size) : a ≤ w.drew.heap.size := h
set_option maxHeartbeats 4000000 in
theorem impRateAll_any {w : World} {A A' : Option Addr} {n c n' c' : Nat} {Z : List Int} {R : List (List Int)} (hl : Hid (Z.length = n)) (hn : n ≤ 1099511627776) (hr : Rd w w.heap.size A (ivs Z)) (hw : Hid (W64 Z)) (hl' : Hid (R.length = n')) (hn' : n' ≤ 1099511627776) (hs : Hid (∀ x ∈ R, x.length ≤ 1099511627776)) (hr' : RdSS w w.heap.size A' R) :
    Calls Try.prog 20 #[.slice A n c, .slice A' n' c'] w (Fresh 3 (ivs (ratL Z R)) w) := by
  have HLN := Lib.hid (fun (k : Nat) => show (ratL Z (R.take k)).length = n from (ratL_len Z _).trans hl.out)
  have HWK := Lib.hid (fun (k : Nat) => hw.out.ratL (R.take k))
  go_enter Try.func20, Try.ntmps20
  go_wp2_with fail
  refine (clone_any (xs := Z) hl hn hr).mono ?_
  rintro e w1 ⟨v1, rfl, hrow1, hb1⟩
  obtain ⟨A1, c1, rfl, _, _, _⟩ := hrow1.rd (n := n) (by rw [ivs_len]; exact hl.out)
  have HROW1 := Lib.hid hrow1
  clear hrow1
  go_wp2_with fail
  go_loopw [12] (fun i wr => ∃ k : Nat, k ≤ n' ∧ i = .int .i64 k ∧ Hid (Row wr w.heap.size wr.heap.size 3 (.slice A1 n c1) (ivs (ratL Z (R.take k)))) ∧ Below w.heap.size w wr) (fun i _ => n' - (intOf i).toNat)
  case atStart => exact ⟨0, Nat.zero_le _, rfl, HROW1, hb1⟩
  case round =>
    obtain ⟨k, hk, rfl, hrow, hb⟩ := hrel
    clear hb1 HROW1
    by_cases hlt : k < n'
    · have hkz : k < R.length := by rw [hl'.out]; exact hlt
      obtain ⟨ad, Aj, cj, rfl, hab, hcx, hle, hcm, hrd⟩ := ((hr'.below hb).more hb.size).at_ hkz
      have HS := Lib.hid (ratL_succ (Z := Z) hkz)
      have hxl := hs.out R[k] (List.getElem_mem hkz)
      obtain ⟨r, hre⟩ : ∃ r, r = R[k] := ⟨_, rfl⟩
      rw [← hre] at hcx hle hrd hxl HS
      have hzl := HLN.out k
      have hwk := HWK.out k
      obtain ⟨Y, hY⟩ : ∃ Y, ratL Z (R.take k) = Y := ⟨_, rfl⟩
      rw [hY] at HS hzl hwk hrow
      have HYL := Lib.hid hzl
      have HWY := Lib.hid hwk
      have i0 : (0 : Int) ≤ (k : Int) := by omega
      have i1 : (k : Int) < (n' : Int) := by omega
      have hsz := hb.size
      have HRD := Lib.hid hrd
      clear hre hY hzl hwk hrd
      cases q : isRb r n with
      | false =>
        have HN := Lib.hid (show ratL Z (R.take (k + 1)) = Y by rw [HS.out]; exact rat1_no (by rw [HYL.out]; exact q))
        have HQ := Lib.hid q
        clear q
        go_wp2_with fail
        refine (isResult_any hn hxl HRD.out).mono ?_
        rintro e w2 ⟨rfl, b2⟩
        rw [HQ.out]
        have HR2 := Lib.hid (show Row w2 w.heap.size w2.heap.size 3 (.slice A1 n c1) (ivs (ratL Z (R.take (k + 1)))) by rw [HN.out]; exact (hrow.out.new b2).wide (Nat.le_refl _) b2.size)
        have hb2 := hb.trans (b2.mono hsz)
        clear b2
        go_wp2_with fail
        go_roundw
        case rel => exact ⟨k + 1, by omega, by go_num, HR2, hb2⟩
        case measure => simp [intOf]; omega
      | true =>
        have HQ := Lib.hid q
        obtain ⟨i, j, rfl, hi, hj, hne⟩ := isRb_iff.1 q
        obtain ⟨ag, ao, rfl, hag, e0, e1⟩ := rd2 HRD.out
        obtain ⟨g, c9, e9, hlo9, _, hgs, _, _⟩ := hrow.out.pos (n := n) (by rw [ivs_len]; exact HYL.out) (by omega)
        injection e9 with e9 _ e10
        subst e9 e10
        rw [show ([(i : Int), (j : Int)] : List Int).length = 2 from rfl] at hcx
        clear q
        go_wp2_with fail
        rw [show (2 : Nat) = ([(i : Int), (j : Int)] : List Int).length from rfl]
        refine (isResult_any hn hxl HRD.out).mono ?_
        rintro e w2 ⟨rfl, b2⟩
        rw [HQ.out]
        have HR2 := Lib.hid ((hrow.out.new b2).wide (Nat.le_refl _) b2.size)
        have hb2 := hb.trans (b2.mono hsz)
        have hs2 := b2.size
        have d0 := nw_c b2 e0
        have d1 := nw_c b2 e1
        have hb2s := hb2.size
        have j0 : (0 : Int) ≤ (i : Int) := by omega
        have j1 : (0 : Int) ≤ (j : Int) := by omega
        have j2 : (i : Int) < (n : Int) := by omega
        have j3 : (j : Int) < (n : Int) := by omega
        clear b2 e0 e1
        go_wp2_with fail
        go_region_law (first
          | (go_simp; go_at_call 57; (with_reducible refine (rateDebate_any (lo := w.heap.size) (n := n) (c := c1) (Z := Y) (by first | exact HR2.out | exact row_dr HR2.out) (by first | exact hb2s | exact le_dr hb2s) hlo9 (by rw [HYL.out]; exact hi) (by rw [HYL.out]; exact hj) hne HWY).mono ?_); rintro e w3 ⟨rfl, hr3, b3⟩))
        all_goals
          have HR3 := Lib.hid (show Row w3 w.heap.size w3.heap.size 3 (.slice (some ⟨g, 0, none⟩) n c1) (ivs (ratL Z (R.take (k + 1)))) by rw [HS.out]; exact hr3)
          have hb3 : Below w.heap.size w w3 := by first | exact hb2.trans b3 | exact hb2.drew.trans b3
          clear hr3 b3
          go_wp2_with fail
          go_roundw
          case rel => exact ⟨k + 1, by omega, by go_num, HR3, hb3⟩
          case measure => simp [intOf]; omega
    · have e : k = n' := by omega
      subst e
      have HT := Lib.hid (show R.take k = R from List.take_of_length_le (by rw [hl'.out]; exact Nat.le_refl _))
      rw [HT.out] at hrow
      go_wp2_with fail
      go_ret
      exact ⟨_, rfl, hrow.out, hb⟩
end Go.Proofs.Ytdpaoaoipnoiiaa
