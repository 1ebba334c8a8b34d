/- Proves the given statement of the law 'FnExactClash': at every input that the statement admits, the law returns true and leaves its arguments as they were. Conditions: those of the given row, no other. -/
import Derived.Test.YteffhbboeacogaaRows
import Derived.LaidHandle
import Derived.LaidLaws
import Derived.Stop.Joined
import Derived.Stop.LaidErr
import Derived.ChangeMaps5
import Derived.WalkKit
import Derived.ProofKit
import Derived.OpenShut
import Derived.Deep.DeepHandedRow
import Derived.Lib.LaidTab
import Derived.Deep.RegionHeld3
import Derived.Test.YteffhbboeacogaaBase
import Derived.Test.YteffhbboeacogaaClaA
import Derived.Test.YteffhbboeacogaaAmendC
import Derived.Test.YteffhbboeacogaaAmendO
import Derived.Test.YteffhbboeacogaaIntSS
import Derived.Test.YteffhbboeacogaaOpen
import Derived.Test.YteffhbboeacogaaGraph
namespace Go.Proofs.Yteffhbboeacogaa.fnExactClash
open Go.ChangeShapes Go.WideShapes Go.ChangeAt Go.RowKit
set_option linter.unusedVariables false
set_option maxRecDepth 100000
theorem own : ownKnob Try.prog.godebug = none := by kernel_rfl
theorem ucells : Try.prog.cellsOf 5 = 1 := by kernel_rfl
set_option maxHeartbeats 4000000 in
set_option maxRecDepth 100000 in
theorem core {W : World} {A0 : Option Addr} {c0 : Nat} {x0 : Am} (R0 : Rd W W.heap.size A0 (ivs x0.put)) (hc0 : x0.put.length ≤ c0) (hm0 : c0 ≤ maxLen) {A1 : Option Addr} {c1 : Nat} {x1 : Am} (R1 : Rd W W.heap.size A1 (ivs x1.put)) (hc1 : x1.put.length ≤ c1) (hm1 : c1 ≤ maxLen) {y0 : Bool}
    (hS : ∀ (w : World) (B0 : Option Addr) (d0 : Nat) (B1 : Option Addr) (d1 : Nat), x0.put.length ≤ 1048576 → Rd w w.heap.size B0 (ivs x0.put) → x1.put.length ≤ 1048576 → Rd w w.heap.size B1 (ivs x1.put) → Calls Try.prog 55 #[.agg #[.int .i64 x0.loc, .int .i64 x0.drp, .slice B0 x0.put.length d0], .agg #[.int .i64 x1.loc, .int .i64 x1.drp, .slice B1 x1.put.length d1]] w (fun e w' => e = .returned (.bool y0) ∧ Below w.heap.size w w'))
    (hI : ∀ (w : World) (B0 : Option Addr) (d0 : Nat) (B1 : Option Addr) (d1 : Nat), x0.put.length ≤ 1048576 → Rd w w.heap.size B0 (ivs x0.put) → x1.put.length ≤ 1048576 → Rd w w.heap.size B1 (ivs x1.put) → Calls Try.prog 26 #[.agg #[.int .i64 x0.loc, .int .i64 x0.drp, .slice B0 x0.put.length d0], .agg #[.int .i64 x1.loc, .int .i64 x1.drp, .slice B1 x1.put.length d1]] w (fun e w' => e = .returned (.bool y0) ∧ Below w.heap.size w w')) :
    Calls Try.prog 14 #[.agg #[.int .i64 x0.loc, .int .i64 x0.drp, .slice A0 x0.put.length c0], .agg #[.int .i64 x1.loc, .int .i64 x1.drp, .slice A1 x1.put.length c1]] W (fun e W' => e = .returned (.bool true) ∧ Below W.heap.size W W') := by
  have HS := Lib.hid hS
  have HI := Lib.hid hI
  clear hS hI
  have early : Below W.heap.size W ((W.alloc (Obj.cells #[.int .i64 x0.loc, .int .i64 x0.drp, .slice A0 x0.put.length c0] 54)).alloc (Obj.cells #[.int .i64 x1.loc, .int .i64 x1.drp, .slice A1 x1.put.length c1] 54)) := (((Below.refl _ _).alloc (by simp; try omega) _).alloc (by simp; try omega) _)
  clear early
  have B0 : Below W.heap.size W W := Below.refl _ _
  go_enter Try.func14, Try.ntmps14
  go_wp2_with fail
  obtain ⟨w1, hw⟩ : ∃ u : World, u = W.alloc (Obj.cells #[.int .i64 x0.loc, .int .i64 x0.drp, .slice A0 x0.put.length c0] 54) := ⟨_, rfl⟩
  rw [← hw]
  have hb : Below W.heap.size W w1 := by rw [hw]; exact (Below.refl _ _).alloc (Nat.le_refl _) _
  have hbx : Bx w1 W.heap.size 54 #[.int .i64 x0.loc, .int .i64 x0.drp, .slice A0 x0.put.length c0] := by rw [hw]; exact Bx.made _ _ _
  have z1 : w1.heap.size = W.heap.size + 1 := by rw [hw]; simp
  clear hw
  have s1 := hb.size
  have B1 := B0.trans (hb.mono B0.size)
  have X_aA := hbx
  obtain ⟨C_aA_0, C_aA_1, C_aA_2⟩ := X_aA.k3
  have l1 := hbx.lt
  clear hb hbx
  try (go_wp2_with fail)
  obtain ⟨w2, hw⟩ : ∃ u : World, u = w1.alloc (Obj.cells #[.int .i64 x1.loc, .int .i64 x1.drp, .slice A1 x1.put.length c1] 54) := ⟨_, rfl⟩
  rw [← hw]
  have hb : Below w1.heap.size w1 w2 := by rw [hw]; exact (Below.refl _ _).alloc (Nat.le_refl _) _
  have hbx : Bx w2 (W.heap.size + 1) 54 #[.int .i64 x1.loc, .int .i64 x1.drp, .slice A1 x1.put.length c1] := by rw [hw, show W.heap.size + 1 = w1.heap.size from z1.symm]; exact Bx.made _ _ _
  have z2 : w2.heap.size = W.heap.size + 2 := by rw [hw]; simp; omega
  clear hw
  clear C_aA_0 C_aA_1 C_aA_2
  have s2 := hb.size
  replace X_aA := X_aA.new hb
  have B2 := B1.trans (hb.mono B1.size)
  obtain ⟨C_aA_0, C_aA_1, C_aA_2⟩ := X_aA.k3
  have X_aB := hbx
  obtain ⟨C_aB_0, C_aB_1, C_aB_2⟩ := X_aB.k3
  have l2 := hbx.lt
  clear hb hbx
  try (go_wp2_with fail)
  go_wp2_with fail
  refine (szAmend_any (q := 1048576) (by unfold maxLen at hm0; omega) (by omega) (by omega)).mono ?_
  rintro e w3 ⟨rfl, hb⟩
  clear C_aA_0 C_aA_1 C_aA_2
  clear C_aB_0 C_aB_1 C_aB_2
  have s3 := hb.size
  replace X_aA := X_aA.new hb
  replace X_aB := X_aB.new hb
  have B3 := B2.trans (hb.mono B2.size)
  obtain ⟨C_aA_0, C_aA_1, C_aA_2⟩ := X_aA.k3
  obtain ⟨C_aB_0, C_aB_1, C_aB_2⟩ := X_aB.k3
  clear hb
  by_cases hz0 : 1048576 < (x0.put.length : Int)
  · rw [show szd 1048576 x0.put.length = -1 by unfold szd; rw [if_pos (by omega)]]
    go_wp2_with fail
    go_ret
    exact ⟨rfl, B3⟩
  have hy0 : x0.put.length ≤ 1048576 := by omega
  rw [show szd 1048576 x0.put.length = 1048576 - (x0.put.length : Int) by unfold szd; rw [if_neg (by omega)]]
  obtain ⟨r_0, hrr⟩ : ∃ r : Int, r = 1048576 - (x0.put.length : Int) := ⟨_, rfl⟩
  rw [← hrr]
  have hq_0 : 0 ≤ r_0 ∧ r_0 ≤ 1048576 := by omega
  clear hrr hz0
  go_wp2_with fail
  refine (szAmend_any (q := r_0) (by unfold maxLen at hm1; omega) (by omega) (by omega)).mono ?_
  rintro e w4 ⟨rfl, hb⟩
  clear C_aA_0 C_aA_1 C_aA_2
  clear C_aB_0 C_aB_1 C_aB_2
  have s4 := hb.size
  replace X_aA := X_aA.new hb
  replace X_aB := X_aB.new hb
  have B4 := B3.trans (hb.mono B3.size)
  obtain ⟨C_aA_0, C_aA_1, C_aA_2⟩ := X_aA.k3
  obtain ⟨C_aB_0, C_aB_1, C_aB_2⟩ := X_aB.k3
  clear hb
  by_cases hz1 : r_0 < (x1.put.length : Int)
  · rw [show szd r_0 x1.put.length = -1 by unfold szd; rw [if_pos (by omega)]]
    go_wp2_with fail
    go_ret
    exact ⟨rfl, B4⟩
  have hy1 : x1.put.length ≤ 1048576 := by omega
  rw [show szd r_0 x1.put.length = r_0 - (x1.put.length : Int) by unfold szd; rw [if_neg (by omega)]]
  obtain ⟨r_1, hrr⟩ : ∃ r : Int, r = r_0 - (x1.put.length : Int) := ⟨_, rfl⟩
  rw [← hrr]
  have hq_1 : 0 ≤ r_1 ∧ r_1 ≤ 1048576 := by omega
  clear hrr hz1
  go_wp2_with fail
  have KE := fun (u : World) (q : Below w4.heap.size w4 u) => show Below w4.heap.size w4 u ∧ u.cell? ⟨W.heap.size, 0, none⟩ = some (.int .i64 x0.loc) ∧ u.cell? ⟨W.heap.size, 1, none⟩ = some (.int .i64 x0.drp) ∧ u.cell? ⟨W.heap.size, 2, none⟩ = some (.slice A0 x0.put.length c0) ∧ u.cell? ⟨W.heap.size + 1, 0, none⟩ = some (.int .i64 x1.loc) ∧ u.cell? ⟨W.heap.size + 1, 1, none⟩ = some (.int .i64 x1.drp) ∧ u.cell? ⟨W.heap.size + 1, 2, none⟩ = some (.slice A1 x1.put.length c1) from ⟨q, ((X_aA.new q).k3).1, ((X_aA.new q).k3).2.1, ((X_aA.new q).k3).2.2, ((X_aB.new q).k3).1, ((X_aB.new q).k3).2.1, ((X_aB.new q).k3).2.2⟩
  have kZ := Below.refl w4.heap.size w4
  have KEH := Lib.hid KE
  clear KE
  clear C_aA_0 C_aA_1 C_aA_2
  clear C_aB_0 C_aB_1 C_aB_2
  go_region_held3 (fun u => Below w4.heap.size w4 u ∧ u.cell? ⟨W.heap.size, 0, none⟩ = some (.int .i64 x0.loc) ∧ u.cell? ⟨W.heap.size, 1, none⟩ = some (.int .i64 x0.drp) ∧ u.cell? ⟨W.heap.size, 2, none⟩ = some (.slice A0 x0.put.length c0) ∧ u.cell? ⟨W.heap.size + 1, 0, none⟩ = some (.int .i64 x1.loc) ∧ u.cell? ⟨W.heap.size + 1, 1, none⟩ = some (.int .i64 x1.drp) ∧ u.cell? ⟨W.heap.size + 1, 2, none⟩ = some (.slice A1 x1.put.length c1)) (first | assumption | with_reducible exact KEH.out _ kZ | with_reducible exact KEH.out _ (Below.drew kZ) | with_reducible exact KEH.out _ k9 | with_reducible exact KEH.out _ (Below.drew k9))
    (first
    | (go_at_call 43; (with_reducible refine (toAmend_any (x := x0) (by omega) ((R0.below (B4.trans ((‹Below w4.heap.size w4 _ ∧ _›).1.mono B4.size))).more (B4.trans ((‹Below w4.heap.size w4 _ ∧ _›).1.mono B4.size)).size)).mono ?_); rintro e w5 ⟨E1, k1, rfl, H1, hb9⟩; have k9 := trans_new (‹Below w4.heap.size w4 _ ∧ _›).1 hb9; have t5 := hb9.size)
    | (go_at_call 43; (with_reducible refine (toAmend_any (x := x1) (by omega) ((R1.below (B4.trans ((‹Below w4.heap.size w4 _ ∧ _›).1.mono B4.size))).more (B4.trans ((‹Below w4.heap.size w4 _ ∧ _›).1.mono B4.size)).size)).mono ?_); rintro e w6 ⟨E2, k2, rfl, H2, hb9⟩; replace H1 := H1.new hb9; have k9 := trans_new (‹Below w4.heap.size w4 _ ∧ _›).1 hb9; have t6 := hb9.size)
    | (go_at_call 55; (with_reducible refine (HS.out _ _ _ _ _ (by omega) (H1.rd'.more (by omega)) (by omega) (H2.rd'.more (by omega))).mono ?_); rintro e w7 ⟨rfl, hb8⟩; have tz := k9.size; have k9 := trans_new (‹Below w4.heap.size w4 _ ∧ _›).1 hb8; have t7 := hb8.size))
  have hb := k9
  clear k9 kZ H1 H2
  have B5 := B4
  have B6 := B4
  have s7 := hb.size
  replace X_aA := X_aA.new hb
  replace X_aB := X_aB.new hb
  have B7 := B6.trans (hb.mono B6.size)
  obtain ⟨C_aA_0, C_aA_1, C_aA_2⟩ := X_aA.k3
  obtain ⟨C_aB_0, C_aB_1, C_aB_2⟩ := X_aB.k3
  clear hb
  go_wp2_with fail
  refine (toAmend_any (x := x0) (by omega) ((R0.below B7).more (by omega))).mono ?_
  rintro e w8 ⟨E3, k3, rfl, hr, hb⟩
  have hk3 := hr.1.1
  clear C_aA_0 C_aA_1 C_aA_2
  clear C_aB_0 C_aB_1 C_aB_2
  have s8 := hb.size
  replace X_aA := X_aA.new hb
  replace X_aB := X_aB.new hb
  have B8 := B7.trans (hb.mono B7.size)
  obtain ⟨C_aA_0, C_aA_1, C_aA_2⟩ := X_aA.k3
  obtain ⟨C_aB_0, C_aB_1, C_aB_2⟩ := X_aB.k3
  have Q_x0 := hr
  clear hr hb hk3
  obtain ⟨D_aA_0, D_aA_1, D_aA_2⟩ := (X_aA.new ((Below.refl _ _).alloc (Nat.le_refl _) (Obj.cells #[.int .i64 x0.loc, .int .i64 x0.drp, .slice E3 x0.put.length k3] 26))).k3
  obtain ⟨D_aB_0, D_aB_1, D_aB_2⟩ := (X_aB.new ((Below.refl _ _).alloc (Nat.le_refl _) (Obj.cells #[.int .i64 x0.loc, .int .i64 x0.drp, .slice E3 x0.put.length k3] 26))).k3
  go_wp2_with fail
  clear D_aA_0 D_aA_1 D_aA_2 D_aB_0 D_aB_1 D_aB_2
  obtain ⟨w9, hw⟩ : ∃ u : World, u = w8.alloc (Obj.cells #[.int .i64 x0.loc, .int .i64 x0.drp, .slice E3 x0.put.length k3] 26) := ⟨_, rfl⟩
  rw [← hw]
  have hb : Below w8.heap.size w8 w9 := by rw [hw]; exact (Below.refl _ _).alloc (Nat.le_refl _) _
  have hbx : Bx w9 w8.heap.size 26 #[.int .i64 x0.loc, .int .i64 x0.drp, .slice E3 x0.put.length k3] := by rw [hw]; exact Bx.made _ _ _
  clear hw
  clear C_aA_0 C_aA_1 C_aA_2
  clear C_aB_0 C_aB_1 C_aB_2
  have s9 := hb.size
  replace Q_x0 := Q_x0.new hb
  replace X_aA := X_aA.new hb
  replace X_aB := X_aB.new hb
  have B9 := B8.trans (hb.mono B8.size)
  obtain ⟨C_aA_0, C_aA_1, C_aA_2⟩ := X_aA.k3
  obtain ⟨C_aB_0, C_aB_1, C_aB_2⟩ := X_aB.k3
  have X_x0 := hbx
  obtain ⟨C_x0_0, C_x0_1, C_x0_2⟩ := X_x0.k3
  have l9 := hbx.lt
  clear hb hbx
  try (go_wp2_with fail)
  refine (toAmend_any (x := x1) (by omega) ((R1.below B9).more (by omega))).mono ?_
  rintro e w10 ⟨E4, k4, rfl, hr, hb⟩
  have hk4 := hr.1.1
  clear C_aA_0 C_aA_1 C_aA_2
  clear C_aB_0 C_aB_1 C_aB_2
  clear C_x0_0 C_x0_1 C_x0_2
  have s10 := hb.size
  replace Q_x0 := Q_x0.new hb
  replace X_aA := X_aA.new hb
  replace X_aB := X_aB.new hb
  replace X_x0 := X_x0.new hb
  have B10 := B9.trans (hb.mono B9.size)
  obtain ⟨C_aA_0, C_aA_1, C_aA_2⟩ := X_aA.k3
  obtain ⟨C_aB_0, C_aB_1, C_aB_2⟩ := X_aB.k3
  obtain ⟨C_x0_0, C_x0_1, C_x0_2⟩ := X_x0.k3
  have Q_x1 := hr
  clear hr hb hk4
  obtain ⟨D_aA_0, D_aA_1, D_aA_2⟩ := (X_aA.new ((Below.refl _ _).alloc (Nat.le_refl _) (Obj.cells #[.int .i64 x1.loc, .int .i64 x1.drp, .slice E4 x1.put.length k4] 26))).k3
  obtain ⟨D_aB_0, D_aB_1, D_aB_2⟩ := (X_aB.new ((Below.refl _ _).alloc (Nat.le_refl _) (Obj.cells #[.int .i64 x1.loc, .int .i64 x1.drp, .slice E4 x1.put.length k4] 26))).k3
  obtain ⟨D_x0_0, D_x0_1, D_x0_2⟩ := (X_x0.new ((Below.refl _ _).alloc (Nat.le_refl _) (Obj.cells #[.int .i64 x1.loc, .int .i64 x1.drp, .slice E4 x1.put.length k4] 26))).k3
  go_wp2_with fail
  clear D_aA_0 D_aA_1 D_aA_2 D_aB_0 D_aB_1 D_aB_2 D_x0_0 D_x0_1 D_x0_2
  obtain ⟨w11, hw⟩ : ∃ u : World, u = w10.alloc (Obj.cells #[.int .i64 x1.loc, .int .i64 x1.drp, .slice E4 x1.put.length k4] 26) := ⟨_, rfl⟩
  rw [← hw]
  have hb : Below w10.heap.size w10 w11 := by rw [hw]; exact (Below.refl _ _).alloc (Nat.le_refl _) _
  have hbx : Bx w11 w10.heap.size 26 #[.int .i64 x1.loc, .int .i64 x1.drp, .slice E4 x1.put.length k4] := by rw [hw]; exact Bx.made _ _ _
  clear hw
  clear C_aA_0 C_aA_1 C_aA_2
  clear C_aB_0 C_aB_1 C_aB_2
  clear C_x0_0 C_x0_1 C_x0_2
  have s11 := hb.size
  replace Q_x0 := Q_x0.new hb
  replace Q_x1 := Q_x1.new hb
  replace X_aA := X_aA.new hb
  replace X_aB := X_aB.new hb
  replace X_x0 := X_x0.new hb
  have B11 := B10.trans (hb.mono B10.size)
  obtain ⟨C_aA_0, C_aA_1, C_aA_2⟩ := X_aA.k3
  obtain ⟨C_aB_0, C_aB_1, C_aB_2⟩ := X_aB.k3
  obtain ⟨C_x0_0, C_x0_1, C_x0_2⟩ := X_x0.k3
  have X_x1 := hbx
  obtain ⟨C_x1_0, C_x1_1, C_x1_2⟩ := X_x1.k3
  have l11 := hbx.lt
  clear hb hbx
  try (go_wp2_with fail)
  refine ((HI.out w11 _ _ _ _ (by omega) (Q_x0.rd'.more (by omega)) (by omega) (Q_x1.rd'.more (by omega)))).mono ?_
  rintro e w12 ⟨rfl, hb⟩
  clear C_aA_0 C_aA_1 C_aA_2
  clear C_aB_0 C_aB_1 C_aB_2
  clear C_x0_0 C_x0_1 C_x0_2
  clear C_x1_0 C_x1_1 C_x1_2
  have s12 := hb.size
  replace Q_x0 := Q_x0.new hb
  replace Q_x1 := Q_x1.new hb
  replace X_aA := X_aA.new hb
  replace X_aB := X_aB.new hb
  replace X_x0 := X_x0.new hb
  replace X_x1 := X_x1.new hb
  have B12 := B11.trans (hb.mono B11.size)
  obtain ⟨C_aA_0, C_aA_1, C_aA_2⟩ := X_aA.k3
  obtain ⟨C_aB_0, C_aB_1, C_aB_2⟩ := X_aB.k3
  obtain ⟨C_x0_0, C_x0_1, C_x0_2⟩ := X_x0.k3
  obtain ⟨C_x1_0, C_x1_1, C_x1_2⟩ := X_x1.k3
  clear hb
  go_wp2_with fail
  have KE := fun (u : World) (q : Below w12.heap.size w12 u) => show Below w12.heap.size w12 u ∧ u.cell? ⟨W.heap.size, 0, none⟩ = some (.int .i64 x0.loc) ∧ u.cell? ⟨W.heap.size, 1, none⟩ = some (.int .i64 x0.drp) ∧ u.cell? ⟨W.heap.size, 2, none⟩ = some (.slice A0 x0.put.length c0) ∧ u.cell? ⟨W.heap.size + 1, 0, none⟩ = some (.int .i64 x1.loc) ∧ u.cell? ⟨W.heap.size + 1, 1, none⟩ = some (.int .i64 x1.drp) ∧ u.cell? ⟨W.heap.size + 1, 2, none⟩ = some (.slice A1 x1.put.length c1) ∧ u.cell? ⟨w8.heap.size, 0, none⟩ = some (.int .i64 x0.loc) ∧ u.cell? ⟨w8.heap.size, 1, none⟩ = some (.int .i64 x0.drp) ∧ u.cell? ⟨w8.heap.size, 2, none⟩ = some (.slice E3 x0.put.length k3) ∧ u.cell? ⟨w10.heap.size, 0, none⟩ = some (.int .i64 x1.loc) ∧ u.cell? ⟨w10.heap.size, 1, none⟩ = some (.int .i64 x1.drp) ∧ u.cell? ⟨w10.heap.size, 2, none⟩ = some (.slice E4 x1.put.length k4) from ⟨q, ((X_aA.new q).k3).1, ((X_aA.new q).k3).2.1, ((X_aA.new q).k3).2.2, ((X_aB.new q).k3).1, ((X_aB.new q).k3).2.1, ((X_aB.new q).k3).2.2, ((X_x0.new q).k3).1, ((X_x0.new q).k3).2.1, ((X_x0.new q).k3).2.2, ((X_x1.new q).k3).1, ((X_x1.new q).k3).2.1, ((X_x1.new q).k3).2.2⟩
  have kZ := Below.refl w12.heap.size w12
  have KEH := Lib.hid KE
  clear KE
  clear C_aA_0 C_aA_1 C_aA_2
  clear C_aB_0 C_aB_1 C_aB_2
  clear C_x0_0 C_x0_1 C_x0_2
  clear C_x1_0 C_x1_1 C_x1_2
  go_region_held3 (fun u => Below w12.heap.size w12 u ∧ u.cell? ⟨W.heap.size, 0, none⟩ = some (.int .i64 x0.loc) ∧ u.cell? ⟨W.heap.size, 1, none⟩ = some (.int .i64 x0.drp) ∧ u.cell? ⟨W.heap.size, 2, none⟩ = some (.slice A0 x0.put.length c0) ∧ u.cell? ⟨W.heap.size + 1, 0, none⟩ = some (.int .i64 x1.loc) ∧ u.cell? ⟨W.heap.size + 1, 1, none⟩ = some (.int .i64 x1.drp) ∧ u.cell? ⟨W.heap.size + 1, 2, none⟩ = some (.slice A1 x1.put.length c1) ∧ u.cell? ⟨w8.heap.size, 0, none⟩ = some (.int .i64 x0.loc) ∧ u.cell? ⟨w8.heap.size, 1, none⟩ = some (.int .i64 x0.drp) ∧ u.cell? ⟨w8.heap.size, 2, none⟩ = some (.slice E3 x0.put.length k3) ∧ u.cell? ⟨w10.heap.size, 0, none⟩ = some (.int .i64 x1.loc) ∧ u.cell? ⟨w10.heap.size, 1, none⟩ = some (.int .i64 x1.drp) ∧ u.cell? ⟨w10.heap.size, 2, none⟩ = some (.slice E4 x1.put.length k4)) (first | assumption | with_reducible exact KEH.out _ kZ | with_reducible exact KEH.out _ (Below.drew kZ) | with_reducible exact KEH.out _ k9 | with_reducible exact KEH.out _ (Below.drew k9))
    (first
    | (go_at_call 43; (with_reducible refine (toAmend_any (x := x0) (by omega) ((R0.below (B12.trans ((‹Below w12.heap.size w12 _ ∧ _›).1.mono B12.size))).more (B12.trans ((‹Below w12.heap.size w12 _ ∧ _›).1.mono B12.size)).size)).mono ?_); rintro e w13 ⟨E5, k5, rfl, hr, hb9⟩; have k9 := trans_new (‹Below w12.heap.size w12 _ ∧ _›).1 hb9; have QX := Q_x0.new k9; have sX := k9.size)
    | (go_at_call 44; (with_reducible refine (eqAmend_same (x := x0) (by omega) (QX.rd'.more (by omega)) (hr.rd'.more (by omega))).mono ?_); rintro e w14 ⟨he, hb8⟩; subst he; have k9 := trans_new (‹Below w12.heap.size w12 _ ∧ _›).1 hb8))
  have hb := k9
  clear k9 kZ
  have B13 := B12
  have s13 : True := trivial
  skip
  skip
  skip
  skip
  have s14 := hb.size
  replace Q_x0 := Q_x0.new hb
  replace Q_x1 := Q_x1.new hb
  replace X_aA := X_aA.new hb
  replace X_aB := X_aB.new hb
  replace X_x0 := X_x0.new hb
  replace X_x1 := X_x1.new hb
  have B14 := B13.trans (hb.mono B13.size)
  obtain ⟨C_aA_0, C_aA_1, C_aA_2⟩ := X_aA.k3
  obtain ⟨C_aB_0, C_aB_1, C_aB_2⟩ := X_aB.k3
  obtain ⟨C_x0_0, C_x0_1, C_x0_2⟩ := X_x0.k3
  obtain ⟨C_x1_0, C_x1_1, C_x1_2⟩ := X_x1.k3
  clear hb
  go_wp2_with fail
  have KE := fun (u : World) (q : Below w14.heap.size w14 u) => show Below w14.heap.size w14 u ∧ u.cell? ⟨W.heap.size, 0, none⟩ = some (.int .i64 x0.loc) ∧ u.cell? ⟨W.heap.size, 1, none⟩ = some (.int .i64 x0.drp) ∧ u.cell? ⟨W.heap.size, 2, none⟩ = some (.slice A0 x0.put.length c0) ∧ u.cell? ⟨W.heap.size + 1, 0, none⟩ = some (.int .i64 x1.loc) ∧ u.cell? ⟨W.heap.size + 1, 1, none⟩ = some (.int .i64 x1.drp) ∧ u.cell? ⟨W.heap.size + 1, 2, none⟩ = some (.slice A1 x1.put.length c1) ∧ u.cell? ⟨w8.heap.size, 0, none⟩ = some (.int .i64 x0.loc) ∧ u.cell? ⟨w8.heap.size, 1, none⟩ = some (.int .i64 x0.drp) ∧ u.cell? ⟨w8.heap.size, 2, none⟩ = some (.slice E3 x0.put.length k3) ∧ u.cell? ⟨w10.heap.size, 0, none⟩ = some (.int .i64 x1.loc) ∧ u.cell? ⟨w10.heap.size, 1, none⟩ = some (.int .i64 x1.drp) ∧ u.cell? ⟨w10.heap.size, 2, none⟩ = some (.slice E4 x1.put.length k4) from ⟨q, ((X_aA.new q).k3).1, ((X_aA.new q).k3).2.1, ((X_aA.new q).k3).2.2, ((X_aB.new q).k3).1, ((X_aB.new q).k3).2.1, ((X_aB.new q).k3).2.2, ((X_x0.new q).k3).1, ((X_x0.new q).k3).2.1, ((X_x0.new q).k3).2.2, ((X_x1.new q).k3).1, ((X_x1.new q).k3).2.1, ((X_x1.new q).k3).2.2⟩
  have kZ := Below.refl w14.heap.size w14
  have KEH := Lib.hid KE
  clear KE
  clear C_aA_0 C_aA_1 C_aA_2
  clear C_aB_0 C_aB_1 C_aB_2
  clear C_x0_0 C_x0_1 C_x0_2
  clear C_x1_0 C_x1_1 C_x1_2
  go_region_held3 (fun u => Below w14.heap.size w14 u ∧ u.cell? ⟨W.heap.size, 0, none⟩ = some (.int .i64 x0.loc) ∧ u.cell? ⟨W.heap.size, 1, none⟩ = some (.int .i64 x0.drp) ∧ u.cell? ⟨W.heap.size, 2, none⟩ = some (.slice A0 x0.put.length c0) ∧ u.cell? ⟨W.heap.size + 1, 0, none⟩ = some (.int .i64 x1.loc) ∧ u.cell? ⟨W.heap.size + 1, 1, none⟩ = some (.int .i64 x1.drp) ∧ u.cell? ⟨W.heap.size + 1, 2, none⟩ = some (.slice A1 x1.put.length c1) ∧ u.cell? ⟨w8.heap.size, 0, none⟩ = some (.int .i64 x0.loc) ∧ u.cell? ⟨w8.heap.size, 1, none⟩ = some (.int .i64 x0.drp) ∧ u.cell? ⟨w8.heap.size, 2, none⟩ = some (.slice E3 x0.put.length k3) ∧ u.cell? ⟨w10.heap.size, 0, none⟩ = some (.int .i64 x1.loc) ∧ u.cell? ⟨w10.heap.size, 1, none⟩ = some (.int .i64 x1.drp) ∧ u.cell? ⟨w10.heap.size, 2, none⟩ = some (.slice E4 x1.put.length k4)) (first | assumption | with_reducible exact KEH.out _ kZ | with_reducible exact KEH.out _ (Below.drew kZ) | with_reducible exact KEH.out _ k9 | with_reducible exact KEH.out _ (Below.drew k9))
    (first
    | (go_at_call 43; (with_reducible refine (toAmend_any (x := x1) (by omega) ((R1.below (B14.trans ((‹Below w14.heap.size w14 _ ∧ _›).1.mono B14.size))).more (B14.trans ((‹Below w14.heap.size w14 _ ∧ _›).1.mono B14.size)).size)).mono ?_); rintro e w15 ⟨E6, k6, rfl, hr, hb9⟩; have k9 := trans_new (‹Below w14.heap.size w14 _ ∧ _›).1 hb9; have QX := Q_x1.new k9; have sX := k9.size)
    | (go_at_call 44; (with_reducible refine (eqAmend_same (x := x1) (by omega) (QX.rd'.more (by omega)) (hr.rd'.more (by omega))).mono ?_); rintro e w16 ⟨he, hb8⟩; subst he; have k9 := trans_new (‹Below w14.heap.size w14 _ ∧ _›).1 hb8))
  have hb := k9
  clear k9 kZ
  have B15 := B14
  have s15 : True := trivial
  skip
  skip
  skip
  skip
  have s16 := hb.size
  replace Q_x0 := Q_x0.new hb
  replace Q_x1 := Q_x1.new hb
  replace X_aA := X_aA.new hb
  replace X_aB := X_aB.new hb
  replace X_x0 := X_x0.new hb
  replace X_x1 := X_x1.new hb
  have B16 := B15.trans (hb.mono B15.size)
  obtain ⟨C_aA_0, C_aA_1, C_aA_2⟩ := X_aA.k3
  obtain ⟨C_aB_0, C_aB_1, C_aB_2⟩ := X_aB.k3
  obtain ⟨C_x0_0, C_x0_1, C_x0_2⟩ := X_x0.k3
  obtain ⟨C_x1_0, C_x1_1, C_x1_2⟩ := X_x1.k3
  clear hb
  go_wp2_with fail
  go_ret
  exact ⟨rfl, B16⟩
theorem contract (H : Type) (enc : TypeId × Value → H) (W : World) (base : Nat) (args : Array Value) (ds gs : List (DataW H)) (before : List MemPlace)
    (hval : ∀ (j : Nat) t v, Try.f14.params[j]? = some t → args[j]? = some v → Value.okWide Try.prog W .any base t v)
    (hW : DataW.Whole enc Try.prog Try.f14.params.toList Rows.fnExactClashSpec.vars false W args.toList ds gs before) (hL : laidMetH Try.prog Rows.fnExactClashRow.laid W)
    (hreach : (DataW.weightsEach Try.prog (Try.f14.params.toList ++ (OpenSpec.ofChange Rows.fnExactClashSpec).bare.plain.varTypes Try.prog) (ds ++ gs)).all (· ≤ reachBytes) = true) :
    Calls Try.prog 14 args W fun e W' => ∃ v, e = .returned v ∧ Rows.fnExactClashSpec.post enc Try.prog Try.f14 false true false false W args v W' := by
  have hW' := hW
  obtain ⟨p, q, hA0, hV, rfl, hfz, hnd⟩ := hW
  have hA : DataW.TrodAll enc Try.prog W 0 (fun _ => true) true Try.f14.params.toList args.toList ds p := hA0
  rw [Try.params14] at hA hval
  obtain ⟨v0, vs0, d0, ds0, p0, q0, hargs, rfl, rfl, h0, r0⟩ := trodAll_cons hA
  obtain ⟨v1, vs1, d1, ds1, p1, q1, rfl, rfl, rfl, h1, r1⟩ := trodAll_cons r0
  obtain ⟨rfl, rfl, rfl⟩ := trodAll_nil r1
  obtain rfl : args = #[v0, v1] := by cases args; simp_all
  obtain ⟨rfl, rfl⟩ := trodVars_none hV
  obtain ⟨x0, A0, c0, rfl, hc0, hm0, R0, hb0⟩ := struct_openA Try.underlying54 (by kernel_rfl) (by kernel_rfl : Try.prog.cellsOf 54 = 3) Try.underlying3 Try.underlying3 Try.underlying24 Try.underlying3 (by kernel_rfl : Try.prog.cellsOf 3 = 1) (hval 0 54 v0 rfl rfl) h0
  obtain ⟨x1, A1, c1, rfl, hc1, hm1, R1, hb1⟩ := struct_openA Try.underlying54 (by kernel_rfl) (by kernel_rfl : Try.prog.cellsOf 54 = 3) Try.underlying3 Try.underlying3 Try.underlying24 Try.underlying3 (by kernel_rfl : Try.prog.cellsOf 3 = 1) (hval 1 54 v1 rfl rfl) h1
  clear hA0 hval
  have walked : Calls Try.prog 14 #[.agg #[.int .i64 x0.loc, .int .i64 x0.drp, .slice A0 x0.put.length c0], .agg #[.int .i64 x1.loc, .int .i64 x1.drp, .slice A1 x1.put.length c1]] W fun e W' => e = .returned (.bool true) ∧ Below W.heap.size W W' := by
    exact core (y0 := claI x0.loc x0.drp x1.loc x1.drp) R0 hc0 hm0 R1 hc1 hm1 (fun w B d B1 d1 hz hr hz1 hr1 => specClash_any) (fun w B d B1 d1 hz hr hz1 hr1 => impClash_any)
  refine walked.mono fun e W' ⟨he, hb⟩ => ?_
  exact ⟨_, he, post_true (tb := 4) hW' rfl Try.underlying4 rfl rfl (by kernel_rfl) (by kernel_rfl) hb⟩
noncomputable def laidWorld (os : Os) : World := World.holding Try.prog os ⟨#[], #[], []⟩
theorem laid_met (os : Os) : laidMet Try.prog Rows.fnExactClashRow.laid ((laidWorld os).forCall (fun _ _ => 0) ⟨#[], #[Value.agg #[.int .i64 0, .int .i64 0, .slice none 0 0], Value.agg #[.int .i64 0, .int .i64 0, .slice none 0 0]], []⟩).memory :=
  laidMet_of_run' 8 (by kernel_rfl) (by kernel_rfl)
theorem reads (os : Os) {H : Type} (enc : TypeId × Value → H) : ∃ places, DataW.whole enc Try.prog ((laidWorld os).forCall (fun _ _ => 0) ⟨#[], #[Value.agg #[.int .i64 0, .int .i64 0, .slice none 0 0], Value.agg #[.int .i64 0, .int .i64 0, .slice none 0 0]], []⟩).memory Try.f14.params.toList Rows.fnExactClashSpec.vars false (#[Value.agg #[.int .i64 0, .int .i64 0, .slice none 0 0], Value.agg #[.int .i64 0, .int .i64 0, .slice none 0 0]]).toList 8 = some ([.agg [.lit (.int .i64 0), .lit (.int .i64 0), .nil], .agg [.lit (.int .i64 0), .lit (.int .i64 0), .nil]], [], places) :=
  ⟨[], by kernel_rfl⟩
set_option maxRecDepth 100000 in
theorem lifted (os : Os) (started : os.Started) (H : Type) (enc : TypeId × Value → H) (F : Stop.Interp) :
    ReturnsInHanded {} Try.checked os 14 .any ((OpenSpec.ofChange Rows.fnExactClashSpec).preRow enc Try.prog Try.f14 Rows.fnExactClashRow.domain false Rows.fnExactClashRow.laid) (((OpenSpec.ofChange Rows.fnExactClashSpec).at F).post enc Try.prog Try.f14 false true false false) := by
  obtain ⟨places, hx⟩ := reads os enc
  refine returnsInHanded_of_row (C := Try.checked) (s := (OpenSpec.ofChange Rows.fnExactClashSpec)) own started (by kernel_rfl) Try.func14
    (witness_row_at (enc := enc) (C := Try.checked) false (laidWorld os) #[Value.agg #[.int .i64 0, .int .i64 0, .slice none 0 0], Value.agg #[.int .i64 0, .int .i64 0, .slice none 0 0]] rfl (by kernel_rfl) (by kernel_rfl) (by kernel_rfl)
      (OpenSpec.preRow_of_cond 8 hx (by kernel_rfl) (fun k hk => by cases hk) (by kernel_rfl) (laid_met os))) ?_
  intro W base args ds gs before hval hW _ hcond hreach hL _ _
  exact contract H enc W base args ds gs before hval hW hL hreach
theorem said : Rows.FnExactClashSaid :=
  OpenClaim.holds_of_cond 14 Try.f14 rfl rfl rfl rfl rfl rfl rfl ⟨rfl, rfl, rfl, rfl, rfl⟩ rfl rfl rfl rfl rfl (by kernel_rfl) Try.func14 (by kernel_rfl)
    (of_decide_eq_true (by kernel_rfl)) (by unfold Func.isWrapper; first | (rw [if_pos (by decide +kernel)]; kernel_rfl) | (rw [if_neg (by decide +kernel)]; exact ⟨rfl, rfl⟩))
    (fun os started H enc _ F => by rw [OpenClaim.pre_eq_preRow]; exact lifted os started H enc F)
#print axioms said
end Go.Proofs.Yteffhbboeacogaa.fnExactClash
