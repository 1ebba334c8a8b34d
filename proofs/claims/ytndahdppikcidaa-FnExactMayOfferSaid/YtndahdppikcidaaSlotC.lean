/- Contracts of the code's clock: isId, end, isRight, left, over, used, read, IsSlot, LeftOf, OverBy, TotalUsed. Condition: the slice has at most 2^40 elements. -/
import Derived.Test.YtndahdppikcidaaSlotM3
namespace Go.Proofs.Ytndahdppikcidaa
open Go.ChangeShapes Go.WideShapes Go.ChangeAt Go.RowKit
set_option maxRecDepth 100000
section
variable {w : World} {a b c n : Int}
theorem isId_any : Calls Try.prog 124 #[.int .i64 a] w (fun e w' => e = .returned (.bool (inr a 1 99)) ∧ w = w') := by
  go_enter Try.func124, Try.ntmps124
  go_wp2_with fail
  refine (inRange_any _ _ _ _).mono ?_
  rintro e w1 ⟨rfl, rfl⟩
  go_wp2_with fail
  go_ret
  exact ⟨rfl, rfl⟩
theorem clkEnd_any (hb : -1000000 ≤ b) (hb2 : b ≤ 1000000) : Calls Try.prog 125 #[.agg #[.int .i64 a, .int .i64 b, .int .i64 c]] w (fun e w' => e = .returned (.int .i64 (b + 15)) ∧ Below w.heap.size w w') := by
  obtain ⟨W1, hW, bx, hb1, hz⟩ := box3 w 99 (.int .i64 a) (.int .i64 b) (.int .i64 c)
  have HW := Lib.hid hW
  obtain ⟨c0, c1, c2⟩ := bx.cells3 (Below.refl _ _)
  clear hW
  go_enter Try.func125, Try.ntmps125
  go_wp2_with fail
  rw [HW.out]
  go_wp2_with fail
  go_ret
  exact ⟨rfl, hb1⟩
set_option maxHeartbeats 4000000 in
theorem clkRight_any : Calls Try.prog 113 #[.agg #[.int .i64 a, .int .i64 b, .int .i64 c]] w (Tells (slB (a, b, c)) w) := by
  obtain ⟨W1, hW, bx, hb1, hz⟩ := box3 w 99 (.int .i64 a) (.int .i64 b) (.int .i64 c)
  have HW := Lib.hid hW
  have KE := fun (u : World) (q : Below W1.heap.size W1 u) => show Below W1.heap.size W1 u ∧ u.cell? ⟨w.heap.size, 0, none⟩ = some (.int .i64 a) ∧ u.cell? ⟨w.heap.size, 1, none⟩ = some (.int .i64 b) ∧ u.cell? ⟨w.heap.size, 2, none⟩ = some (.int .i64 c) from ⟨q, bx.cells3 q⟩
  clear hW hz
  by_cases h1 : inr a 1 99 = true
  · by_cases h2 : inr b 1 1000 = true
    · have hbb := inrI h2
      have HV := Lib.hid (show slB (a, b, c) = inr c 0 (b + 15) by unfold slB; simp only [h1, h2, Bool.true_and])
      have H1 := Lib.hid h1
      have H2 := Lib.hid h2
      clear h1 h2
      obtain ⟨r, hr⟩ : ∃ r, inr c 0 (b + 15) = r := ⟨_, rfl⟩
      have HR := Lib.hid hr
      rw [hr] at HV
      clear hr
      go_enter Try.func113, Try.ntmps113
      go_wp2_with fail
      rw [HW.out]
      refine wp_region_quiet (C := fun u => Below W1.heap.size W1 u ∧ u.cell? ⟨w.heap.size, 0, none⟩ = some (.int .i64 a) ∧ u.cell? ⟨w.heap.size, 1, none⟩ = some (.int .i64 b) ∧ u.cell? ⟨w.heap.size, 2, none⟩ = some (.int .i64 c)) (by kernel_rfl) (by kernel_rfl) (KE _ (Below.refl W1.heap.size W1).drew) ?_
      rw [List.toList_toArray]
      go_big_quiet_want
      apply Exists.intro
      refine ⟨fun u hu => ?_, ?_⟩
      · obtain ⟨hu0, hu1, hu2, hu3⟩ := hu
        unfold Oper.quietAt
        go_simp
        try rfl
      simp only [Act.put, List.setIfInBounds_toArray, List.set_cons_zero, List.set_cons_succ]
      go_big_quiet_on
      go_big_quiet_want
      apply Exists.intro
      refine ⟨fun u hu => ?_, ?_⟩
      · obtain ⟨hu0, hu1, hu2, hu3⟩ := hu
        unfold Oper.quietAt
        go_simp
        try rfl
      simp only [Act.put, List.setIfInBounds_toArray, List.set_cons_zero, List.set_cons_succ]
      go_big_quiet_on
      go_big_quiet_want
      refine ⟨.bool true, fun u hu => ?_, ?_⟩
      · obtain ⟨hu0, hu1, hu2, hu3⟩ := hu
        unfold Oper.quietAt
        go_simp
        refine (isId_any).mono ?_
        rintro e u9 ⟨he, rfl⟩
        rw [H1.out] at he
        exact ⟨he, hu0, hu1, hu2, hu3⟩
      simp only [Act.put, List.setIfInBounds_toArray, List.set_cons_zero, List.set_cons_succ]
      go_big_quiet_on
      go_big_quiet_want
      go_big_quiet_op
      go_big_quiet_on
      go_big_quiet_want
      apply Exists.intro
      refine ⟨fun u hu => ?_, ?_⟩
      · obtain ⟨hu0, hu1, hu2, hu3⟩ := hu
        unfold Oper.quietAt
        go_simp
        try rfl
      simp only [Act.put, List.setIfInBounds_toArray, List.set_cons_zero, List.set_cons_succ]
      go_big_quiet_on
      go_big_quiet_want
      apply Exists.intro
      refine ⟨fun u hu => ?_, ?_⟩
      · obtain ⟨hu0, hu1, hu2, hu3⟩ := hu
        unfold Oper.quietAt
        go_simp
        try rfl
      simp only [Act.put, List.setIfInBounds_toArray, List.set_cons_zero, List.set_cons_succ]
      go_big_quiet_on
      go_big_quiet_want
      refine ⟨.bool true, fun u hu => ?_, ?_⟩
      · obtain ⟨hu0, hu1, hu2, hu3⟩ := hu
        unfold Oper.quietAt
        go_simp
        refine (inRange_any _ _ _ _).mono ?_
        rintro e u9 ⟨he, rfl⟩
        rw [H2.out] at he
        exact ⟨he, hu0, hu1, hu2, hu3⟩
      simp only [Act.put, List.setIfInBounds_toArray, List.set_cons_zero, List.set_cons_succ]
      go_big_quiet_on
      go_big_quiet_want
      apply Exists.intro
      refine ⟨fun u hu => ?_, ?_⟩
      · obtain ⟨hu0, hu1, hu2, hu3⟩ := hu
        unfold Oper.quietAt
        go_simp
        try rfl
      simp only [Act.put, List.setIfInBounds_toArray, List.set_cons_zero, List.set_cons_succ]
      go_big_quiet_on
      go_big_quiet_want
      go_big_quiet_op
      go_big_quiet_on
      go_big_quiet_want
      apply Exists.intro
      refine ⟨fun u hu => ?_, ?_⟩
      · obtain ⟨hu0, hu1, hu2, hu3⟩ := hu
        unfold Oper.quietAt
        go_simp
        try rfl
      simp only [Act.put, List.setIfInBounds_toArray, List.set_cons_zero, List.set_cons_succ]
      go_big_quiet_on
      go_big_quiet_want
      apply Exists.intro
      refine ⟨fun u hu => ?_, ?_⟩
      · obtain ⟨hu0, hu1, hu2, hu3⟩ := hu
        unfold Oper.quietAt
        go_simp
        try rfl
      simp only [Act.put, List.setIfInBounds_toArray, List.set_cons_zero, List.set_cons_succ]
      go_big_quiet_on
      go_big_quiet_want
      apply Exists.intro
      refine ⟨fun u hu => ?_, ?_⟩
      · obtain ⟨hu0, hu1, hu2, hu3⟩ := hu
        unfold Oper.quietAt
        go_simp
        try rfl
      simp only [Act.put, List.setIfInBounds_toArray, List.set_cons_zero, List.set_cons_succ]
      go_big_quiet_on
      go_big_quiet_want
      refine ⟨.int .i64 (b + 15), fun u hu => ?_, ?_⟩
      · obtain ⟨hu0, hu1, hu2, hu3⟩ := hu
        unfold Oper.quietAt
        go_simp
        refine (clkEnd_any (by omega) (by omega)).mono ?_
        rintro e u9 ⟨he, hb9⟩
        exact ⟨he, KE _ (trans_new hu0 hb9)⟩
      simp only [Act.put, List.setIfInBounds_toArray, List.set_cons_zero, List.set_cons_succ]
      go_big_quiet_on
      go_big_quiet_want
      refine ⟨.bool r, fun u hu => ?_, ?_⟩
      · obtain ⟨hu0, hu1, hu2, hu3⟩ := hu
        unfold Oper.quietAt
        go_simp
        refine (inRange_any _ _ _ _).mono ?_
        rintro e u9 ⟨he, rfl⟩
        rw [HR.out] at he
        exact ⟨he, hu0, hu1, hu2, hu3⟩
      simp only [Act.put, List.setIfInBounds_toArray, List.set_cons_zero, List.set_cons_succ]
      go_big_quiet_on
      go_big_quiet_want
      apply Exists.intro
      refine ⟨fun u hu => ?_, ?_⟩
      · obtain ⟨hu0, hu1, hu2, hu3⟩ := hu
        unfold Oper.quietAt
        go_simp
        try rfl
      simp only [Act.put, List.setIfInBounds_toArray, List.set_cons_zero, List.set_cons_succ]
      go_big_quiet_on
      go_big_quiet_want
      go_big_quiet_op
      go_big_quiet_on
      refine wpQuiet_nil ?_
      rintro u ⟨k9, _⟩
      go_wp2_with fail
      go_ret
      exact ⟨ret_b HV.out.symm, hb1.trans (k9.mono hb1.size)⟩
    · have h2 : inr b 1 1000 = false := by simpa using h2
      have HV := Lib.hid (show slB (a, b, c) = false by unfold slB; simp only [h1, h2]; rfl)
      have H1 := Lib.hid h1
      have H2 := Lib.hid h2
      clear h1 h2
      go_enter Try.func113, Try.ntmps113
      go_wp2_with fail
      rw [HW.out]
      refine wp_region_quiet (C := fun u => Below W1.heap.size W1 u ∧ u.cell? ⟨w.heap.size, 0, none⟩ = some (.int .i64 a) ∧ u.cell? ⟨w.heap.size, 1, none⟩ = some (.int .i64 b) ∧ u.cell? ⟨w.heap.size, 2, none⟩ = some (.int .i64 c)) (by kernel_rfl) (by kernel_rfl) (KE _ (Below.refl W1.heap.size W1).drew) ?_
      rw [List.toList_toArray]
      go_big_quiet_want
      apply Exists.intro
      refine ⟨fun u hu => ?_, ?_⟩
      · obtain ⟨hu0, hu1, hu2, hu3⟩ := hu
        unfold Oper.quietAt
        go_simp
        try rfl
      simp only [Act.put, List.setIfInBounds_toArray, List.set_cons_zero, List.set_cons_succ]
      go_big_quiet_on
      go_big_quiet_want
      apply Exists.intro
      refine ⟨fun u hu => ?_, ?_⟩
      · obtain ⟨hu0, hu1, hu2, hu3⟩ := hu
        unfold Oper.quietAt
        go_simp
        try rfl
      simp only [Act.put, List.setIfInBounds_toArray, List.set_cons_zero, List.set_cons_succ]
      go_big_quiet_on
      go_big_quiet_want
      refine ⟨.bool true, fun u hu => ?_, ?_⟩
      · obtain ⟨hu0, hu1, hu2, hu3⟩ := hu
        unfold Oper.quietAt
        go_simp
        refine (isId_any).mono ?_
        rintro e u9 ⟨he, rfl⟩
        rw [H1.out] at he
        exact ⟨he, hu0, hu1, hu2, hu3⟩
      simp only [Act.put, List.setIfInBounds_toArray, List.set_cons_zero, List.set_cons_succ]
      go_big_quiet_on
      go_big_quiet_want
      go_big_quiet_op
      go_big_quiet_on
      go_big_quiet_want
      apply Exists.intro
      refine ⟨fun u hu => ?_, ?_⟩
      · obtain ⟨hu0, hu1, hu2, hu3⟩ := hu
        unfold Oper.quietAt
        go_simp
        try rfl
      simp only [Act.put, List.setIfInBounds_toArray, List.set_cons_zero, List.set_cons_succ]
      go_big_quiet_on
      go_big_quiet_want
      apply Exists.intro
      refine ⟨fun u hu => ?_, ?_⟩
      · obtain ⟨hu0, hu1, hu2, hu3⟩ := hu
        unfold Oper.quietAt
        go_simp
        try rfl
      simp only [Act.put, List.setIfInBounds_toArray, List.set_cons_zero, List.set_cons_succ]
      go_big_quiet_on
      go_big_quiet_want
      refine ⟨.bool false, fun u hu => ?_, ?_⟩
      · obtain ⟨hu0, hu1, hu2, hu3⟩ := hu
        unfold Oper.quietAt
        go_simp
        refine (inRange_any _ _ _ _).mono ?_
        rintro e u9 ⟨he, rfl⟩
        rw [H2.out] at he
        exact ⟨he, hu0, hu1, hu2, hu3⟩
      simp only [Act.put, List.setIfInBounds_toArray, List.set_cons_zero, List.set_cons_succ]
      go_big_quiet_on
      go_big_quiet_want
      apply Exists.intro
      refine ⟨fun u hu => ?_, ?_⟩
      · obtain ⟨hu0, hu1, hu2, hu3⟩ := hu
        unfold Oper.quietAt
        go_simp
        try rfl
      simp only [Act.put, List.setIfInBounds_toArray, List.set_cons_zero, List.set_cons_succ]
      go_big_quiet_on
      go_big_quiet_want
      go_big_quiet_op
      go_big_quiet_on
      repeat go_big_quiet_skip
      go_big_quiet_want
      apply Exists.intro
      refine ⟨fun u hu => ?_, ?_⟩
      · obtain ⟨hu0, hu1, hu2, hu3⟩ := hu
        unfold Oper.quietAt
        go_simp
        try rfl
      simp only [Act.put, List.setIfInBounds_toArray, List.set_cons_zero, List.set_cons_succ]
      go_big_quiet_on
      go_big_quiet_want
      go_big_quiet_op
      go_big_quiet_on
      refine wpQuiet_nil ?_
      rintro u ⟨k9, _⟩
      go_wp2_with fail
      go_ret
      exact ⟨ret_b HV.out.symm, hb1.trans (k9.mono hb1.size)⟩
  · have h1 : inr a 1 99 = false := by simpa using h1
    have HV := Lib.hid (show slB (a, b, c) = false by unfold slB; simp only [h1]; rfl)
    have H1 := Lib.hid h1
    clear h1
    go_enter Try.func113, Try.ntmps113
    go_wp2_with fail
    rw [HW.out]
    refine wp_region_quiet (C := fun u => Below W1.heap.size W1 u ∧ u.cell? ⟨w.heap.size, 0, none⟩ = some (.int .i64 a) ∧ u.cell? ⟨w.heap.size, 1, none⟩ = some (.int .i64 b) ∧ u.cell? ⟨w.heap.size, 2, none⟩ = some (.int .i64 c)) (by kernel_rfl) (by kernel_rfl) (KE _ (Below.refl W1.heap.size W1).drew) ?_
    rw [List.toList_toArray]
    go_big_quiet_want
    apply Exists.intro
    refine ⟨fun u hu => ?_, ?_⟩
    · obtain ⟨hu0, hu1, hu2, hu3⟩ := hu
      unfold Oper.quietAt
      go_simp
      try rfl
    simp only [Act.put, List.setIfInBounds_toArray, List.set_cons_zero, List.set_cons_succ]
    go_big_quiet_on
    go_big_quiet_want
    apply Exists.intro
    refine ⟨fun u hu => ?_, ?_⟩
    · obtain ⟨hu0, hu1, hu2, hu3⟩ := hu
      unfold Oper.quietAt
      go_simp
      try rfl
    simp only [Act.put, List.setIfInBounds_toArray, List.set_cons_zero, List.set_cons_succ]
    go_big_quiet_on
    go_big_quiet_want
    refine ⟨.bool false, fun u hu => ?_, ?_⟩
    · obtain ⟨hu0, hu1, hu2, hu3⟩ := hu
      unfold Oper.quietAt
      go_simp
      refine (isId_any).mono ?_
      rintro e u9 ⟨he, rfl⟩
      rw [H1.out] at he
      exact ⟨he, hu0, hu1, hu2, hu3⟩
    simp only [Act.put, List.setIfInBounds_toArray, List.set_cons_zero, List.set_cons_succ]
    go_big_quiet_on
    go_big_quiet_want
    go_big_quiet_op
    go_big_quiet_on
    repeat go_big_quiet_skip
    go_big_quiet_want
    apply Exists.intro
    refine ⟨fun u hu => ?_, ?_⟩
    · obtain ⟨hu0, hu1, hu2, hu3⟩ := hu
      unfold Oper.quietAt
      go_simp
      try rfl
    simp only [Act.put, List.setIfInBounds_toArray, List.set_cons_zero, List.set_cons_succ]
    go_big_quiet_on
    go_big_quiet_want
    go_big_quiet_op
    go_big_quiet_on
    repeat go_big_quiet_skip
    go_big_quiet_want
    apply Exists.intro
    refine ⟨fun u hu => ?_, ?_⟩
    · obtain ⟨hu0, hu1, hu2, hu3⟩ := hu
      unfold Oper.quietAt
      go_simp
      try rfl
    simp only [Act.put, List.setIfInBounds_toArray, List.set_cons_zero, List.set_cons_succ]
    go_big_quiet_on
    go_big_quiet_want
    go_big_quiet_op
    go_big_quiet_on
    refine wpQuiet_nil ?_
    rintro u ⟨k9, _⟩
    go_wp2_with fail
    go_ret
    exact ⟨ret_b HV.out.symm, hb1.trans (k9.mono hb1.size)⟩
end
end Go.Proofs.Ytndahdppikcidaa
