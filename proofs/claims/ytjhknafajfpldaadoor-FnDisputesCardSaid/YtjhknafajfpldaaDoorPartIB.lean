/- Contract of the code's IsPartOf. Condition: the slices have at most 2^40 elements. -/
import Derived.Test.YtjhknafajfpldaaDoorPartM
import Derived.BigQuiet
import Derived.Deep.Quiet
namespace Go.Proofs.YtjhknafajfpldaaDoor
open Go.ChangeShapes Go.WideShapes Go.ChangeAt Go.RowKit
set_option maxRecDepth 100000
section
variable {w : World} {A A' : Option Addr} {n c n' c' : Nat} {M N : Int} {X Y : List (List Int)}
set_option maxHeartbeats 8000000 in
theorem partOf_B {m : Nat} (hX : gB m X = true) (hY : ¬ gB N Y = true) (hl : Hid (X.length = n)) (hn : n ≤ 1099511627776) (hr : RdSS w w.heap.size A X) (hl' : Hid (Y.length = n')) (hn' : n' ≤ 1099511627776) (hr' : RdSS w w.heap.size A' Y) :
    Calls Tryd.prog 10 #[.agg #[.int .i64 m, .slice A n c], .agg #[.int .i64 N, .slice A' n' c']] w (Tells (partB m X N Y) w) := by
  obtain ⟨W2, hW2, b0, b1, hb2, hs2⟩ := two_blocks w #[Value.int IntKind.i64 m, Value.slice A n c] #[Value.int IntKind.i64 N, Value.slice A' n' c'] 26 26
  have hr2 := (hr.below hb2).more hb2.size
  have hr2' := (hr'.below hb2).more hb2.size
  have KE := fun (w' : World) (k : Below W2.heap.size W2 w') => four_new b0 b1 k
  obtain ⟨C0, C1⟩ := b0.two
  obtain ⟨D0, D1⟩ := b1.two
  have HR := Lib.hid hr2
  have HR' := Lib.hid hr2'
  clear hr hr' hr2 hr2' hs2
  have HX := Lib.hid hX
  have HY := Lib.hid (show gB N Y = false by simpa using hY)
  have HP := Lib.hid (show partB m X N Y = false by unfold partB; rw [HX.out, HY.out]; rfl)
  clear hX hY
  go_enter Tryd.func10, Tryd.ntmps10
  go_wp2_with fail
  refine wp_region_quiet (C := fun w' => Below W2.heap.size W2 w' ∧ w'.cell? ⟨w.heap.size, 0, none⟩ = some (.int .i64 m) ∧ w'.cell? ⟨w.heap.size, 1, none⟩ = some (.slice A n c) ∧ w'.cell? ⟨w.heap.size + 1, 0, none⟩ = some (.int .i64 N) ∧ w'.cell? ⟨w.heap.size + 1, 1, none⟩ = some (.slice A' n' c')) (by kernel_rfl) (by kernel_rfl) (KE _ (Below.refl W2.heap.size W2).drew) ?_
  rw [List.toList_toArray]
  go_big_quiet_want
  apply Exists.intro
  refine ⟨fun u hu => ?_, ?_⟩
  · obtain ⟨hu0, hu1, hu2, hu3, hu4⟩ := hu
    unfold Oper.quietAt
    go_simp
    try rfl
  simp only [Act.put, List.setIfInBounds_toArray, List.set_cons_zero, List.set_cons_succ]
  go_big_quiet_on
  go_big_quiet_want
  refine ⟨.bool true, fun u hu => ?_, ?_⟩
  · have hu0 := hu.1
    unfold Oper.quietAt
    go_simp
    refine (impIsGraph_any (N := m) (X := X) (c := c) hl hn (rdSS_nw HR.out hu0)).mono ?_
    rintro e u9 ⟨he, hb9⟩
    rw [HX.out] at he
    exact ⟨he, KE _ (trans_new hu0 hb9)⟩
  simp only [Act.put, List.setIfInBounds_toArray, List.set_cons_zero, List.set_cons_succ]
  go_big_quiet_on
  go_big_quiet_want
  go_big_quiet_op
  go_big_quiet_on
  go_big_quiet_want
  apply Exists.intro
  refine ⟨fun u hu => ?_, ?_⟩
  · obtain ⟨hu0, hu1, hu2, hu3, hu4⟩ := hu
    unfold Oper.quietAt
    go_simp
    try rfl
  simp only [Act.put, List.setIfInBounds_toArray, List.set_cons_zero, List.set_cons_succ]
  go_big_quiet_on
  go_big_quiet_want
  refine ⟨.bool false, fun u hu => ?_, ?_⟩
  · have hu0 := hu.1
    unfold Oper.quietAt
    go_simp
    refine (impIsGraph_any (N := N) (X := Y) (c := c') hl' hn' (rdSS_nw HR'.out hu0)).mono ?_
    rintro e u9 ⟨he, hb9⟩
    rw [HY.out] at he
    exact ⟨he, KE _ (trans_new hu0 hb9)⟩
  simp only [Act.put, List.setIfInBounds_toArray, List.set_cons_zero, List.set_cons_succ]
  go_big_quiet_on
  go_big_quiet_want
  apply Exists.intro
  refine ⟨fun u hu => ?_, ?_⟩
  · obtain ⟨hu0, hu1, hu2, hu3, hu4⟩ := hu
    unfold Oper.quietAt
    go_simp
    try rfl
  simp only [Act.put, List.setIfInBounds_toArray, List.set_cons_zero, List.set_cons_succ]
  go_big_quiet_on
  go_big_quiet_want
  go_big_quiet_op
  go_big_quiet_on
  repeat go_big_quiet_skip
  go_big_quiet_want
  apply Exists.intro
  refine ⟨fun u hu => ?_, ?_⟩
  · obtain ⟨hu0, hu1, hu2, hu3, hu4⟩ := hu
    unfold Oper.quietAt
    go_simp
    try rfl
  simp only [Act.put, List.setIfInBounds_toArray, List.set_cons_zero, List.set_cons_succ]
  go_big_quiet_on
  go_big_quiet_want
  go_big_quiet_op
  go_big_quiet_on
  repeat go_big_quiet_skip
  go_big_quiet_want
  apply Exists.intro
  refine ⟨fun u hu => ?_, ?_⟩
  · obtain ⟨hu0, hu1, hu2, hu3, hu4⟩ := hu
    unfold Oper.quietAt
    go_simp
    try rfl
  simp only [Act.put, List.setIfInBounds_toArray, List.set_cons_zero, List.set_cons_succ]
  go_big_quiet_on
  go_big_quiet_want
  go_big_quiet_op
  go_big_quiet_on
  refine wpQuiet_nil ?_
  rintro u ⟨k9, _, _, _, _⟩
  go_wp2_with fail
  go_ret
  exact ⟨ret_b HP.out.symm, hb2.trans (k9.mono hb2.size)⟩
end
end Go.Proofs.YtjhknafajfpldaaDoor
