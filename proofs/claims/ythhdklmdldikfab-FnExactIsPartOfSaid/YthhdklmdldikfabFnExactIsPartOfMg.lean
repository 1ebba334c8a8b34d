/- Proves the given statement of the law 'FnExactIsPartOf': at every input that the statement admits, the law returns true and leaves its arguments as they were. Conditions: those of the given row, no other. -/
import Derived.Test.YthhdklmdldikfabRows
import Derived.LaidHandle
import Derived.LaidLaws
import Derived.Stop.Joined
import Derived.Stop.LaidErr
import Derived.ChangeMaps5
import Derived.WalkKit
import Derived.ProofKit
import Derived.OpenShut
import Derived.Deep.DeepHandedRow
import Derived.Lib.LaidTab
import Derived.Deep.RegionHeld3
import Derived.Test.YthhdklmdldikfabMg0
import Derived.Test.YthhdklmdldikfabPartI
import Derived.Test.YthhdklmdldikfabPartM
import Derived.Test.YthhdklmdldikfabMg2
import Derived.Test.YthhdklmdldikfabMg4
import Derived.Test.YthhdklmdldikfabOpen
namespace Go.Proofs.Ythhdklmdldikfab.fnExactIsPartOf
open Go.ChangeShapes Go.WideShapes Go.ChangeAt Go.RowKit
set_option linter.unusedVariables false
set_option maxRecDepth 100000
theorem own : ownKnob Try.prog.godebug = none := by kernel_rfl
theorem ucells : Try.prog.cellsOf 5 = 1 := by kernel_rfl
set_option maxHeartbeats 4000000 in
set_option maxRecDepth 100000 in
theorem core {W : World} {N0 : Int} {A0 : Option Addr} {c0 : Nat} {X0 : List (List Int)} (R0 : RdSS W W.heap.size A0 X0) (hc0 : X0.length ≤ c0) (hm0 : c0 ≤ maxLen) {N1 : Int} {A1 : Option Addr} {c1 : Nat} {X1 : List (List Int)} (R1 : RdSS W W.heap.size A1 X1) (hc1 : X1.length ≤ c1) (hm1 : c1 ≤ maxLen) {x0 : Bool}
    (hS : ∀ (w : World) (B0 : Option Addr) (d0 : Nat) (B1 : Option Addr) (d1 : Nat), X0.length ≤ 1048576 → Hid (∀ x ∈ X0, x.length ≤ 1048576) → psum X0 X0.length ≤ 1048576 → X0.length ≤ d0 → d0 ≤ maxLen → RdSS w w.heap.size B0 X0 → X1.length ≤ 1048576 → Hid (∀ x ∈ X1, x.length ≤ 1048576) → psum X1 X1.length ≤ 1048576 → X1.length ≤ d1 → d1 ≤ maxLen → RdSS w w.heap.size B1 X1 → Calls Try.prog 30 #[.agg #[.int .i64 N0, .slice B0 X0.length d0], .agg #[.int .i64 N1, .slice B1 X1.length d1]] w (fun e w' => e = .returned (.bool x0) ∧ Below w.heap.size w w'))
    (hI : ∀ (w : World) (B0 : Option Addr) (d0 : Nat) (B1 : Option Addr) (d1 : Nat), X0.length ≤ 1048576 → Hid (∀ x ∈ X0, x.length ≤ 1048576) → psum X0 X0.length ≤ 1048576 → X0.length ≤ d0 → d0 ≤ maxLen → RdSS w w.heap.size B0 X0 → X1.length ≤ 1048576 → Hid (∀ x ∈ X1, x.length ≤ 1048576) → psum X1 X1.length ≤ 1048576 → X1.length ≤ d1 → d1 ≤ maxLen → RdSS w w.heap.size B1 X1 → Calls Try.prog 31 #[.agg #[.int .i64 N0, .slice B0 X0.length d0], .agg #[.int .i64 N1, .slice B1 X1.length d1]] w (fun e w' => e = .returned (.bool x0) ∧ Below w.heap.size w w')) :
    Calls Try.prog 5 #[.agg #[.int .i64 N0, .slice A0 X0.length c0], .agg #[.int .i64 N1, .slice A1 X1.length c1]] W (fun e W' => e = .returned (.bool true) ∧ Below W.heap.size W W') := by
  have HS := Lib.hid hS
  have HI := Lib.hid hI
  clear hS hI
  have early : Below W.heap.size W ((W.alloc (Obj.cells #[.int .i64 N0, .slice A0 X0.length c0] 38)).alloc (Obj.cells #[.int .i64 N1, .slice A1 X1.length c1] 38)) := (((Below.refl _ _).alloc (by simp) _).alloc (by simp) _)
  clear early
  have B0 : Below W.heap.size W W := Below.refl _ _
  go_enter Try.func5, Try.ntmps5
  go_wp2_with fail
  obtain ⟨w1, hw⟩ : ∃ u : World, u = W.alloc (Obj.cells #[.int .i64 N0, .slice A0 X0.length c0] 38) := ⟨_, rfl⟩
  rw [← hw]
  have hb : Below W.heap.size W w1 := by rw [hw]; exact (Below.refl _ _).alloc (Nat.le_refl _) _
  have hbx : Bx w1 W.heap.size 38 #[.int .i64 N0, .slice A0 X0.length c0] := by rw [hw]; exact Bx.made _ _ _
  have z1 := Lib.hid (show w1.heap.size = W.heap.size + 1 by rw [hw]; simp)
  clear hw
  have s1 := hb.size
  have B1 := B0.trans (hb.mono B0.size)
  have X_aA := hbx
  obtain ⟨C_aA_0, C_aA_1⟩ := X_aA.two
  have l1 := hbx.lt
  clear hb hbx
  try (go_wp2_with fail)
  obtain ⟨w2, hw⟩ : ∃ u : World, u = w1.alloc (Obj.cells #[.int .i64 N1, .slice A1 X1.length c1] 38) := ⟨_, rfl⟩
  rw [← hw]
  have hb : Below w1.heap.size w1 w2 := by rw [hw]; exact (Below.refl _ _).alloc (Nat.le_refl _) _
  have hbx : Bx w2 (W.heap.size + 1) 38 #[.int .i64 N1, .slice A1 X1.length c1] := by rw [hw, ← z1.out]; exact Bx.made _ _ _
  clear hw
  clear C_aA_0 C_aA_1
  have s2 := hb.size
  replace X_aA := X_aA.new hb
  have B2 := B1.trans (hb.mono B1.size)
  obtain ⟨C_aA_0, C_aA_1⟩ := X_aA.two
  have X_aB := hbx
  obtain ⟨C_aB_0, C_aB_1⟩ := X_aB.two
  have l2 := hbx.lt
  clear hb hbx
  try (go_wp2_with fail)
  refine (szGraph_any (q := 1048576) (X := X0) (Lib.hid rfl) (by unfold maxLen at hm0; omega) (by omega) (by omega) ((R0.below B2).more (by omega))).mono ?_
  rintro e w3 ⟨r_0, rfl, hb, hr⟩
  clear C_aA_0 C_aA_1
  clear C_aB_0 C_aB_1
  have s3 := hb.size
  replace X_aA := X_aA.new hb
  replace X_aB := X_aB.new hb
  have B3 := B2.trans (hb.mono B2.size)
  obtain ⟨C_aA_0, C_aA_1⟩ := X_aA.two
  obtain ⟨C_aB_0, C_aB_1⟩ := X_aB.two
  clear hb
  rcases hr with rfl | ⟨hr_0, hsz⟩
  · go_wp2_with fail
    go_ret
    exact ⟨rfl, B3⟩
  have hy0 : X0.length ≤ 1048576 := by omega
  have hp0 : psum X0 X0.length ≤ 1048576 := by omega
  have hs0 : Hid (∀ x ∈ X0, x.length ≤ 1048576) := Lib.hid (fun x hx => Nat.le_trans (psum_mem X0 x hx) hp0)
  have hq_0 : r_0 ≤ 1048576 := by omega
  clear hsz
  go_wp2_with fail
  refine (szGraph_any (q := r_0) (X := X1) (Lib.hid rfl) (by unfold maxLen at hm1; omega) (by omega) (by omega) ((R1.below B3).more (by omega))).mono ?_
  rintro e w4 ⟨r_1, rfl, hb, hr⟩
  clear C_aA_0 C_aA_1
  clear C_aB_0 C_aB_1
  have s4 := hb.size
  replace X_aA := X_aA.new hb
  replace X_aB := X_aB.new hb
  have B4 := B3.trans (hb.mono B3.size)
  obtain ⟨C_aA_0, C_aA_1⟩ := X_aA.two
  obtain ⟨C_aB_0, C_aB_1⟩ := X_aB.two
  clear hb
  rcases hr with rfl | ⟨hr_1, hsz⟩
  · go_wp2_with fail
    go_ret
    exact ⟨rfl, B4⟩
  have hy1 : X1.length ≤ 1048576 := by omega
  have hp1 : psum X1 X1.length ≤ 1048576 := by omega
  have hs1 : Hid (∀ x ∈ X1, x.length ≤ 1048576) := Lib.hid (fun x hx => Nat.le_trans (psum_mem X1 x hx) hp1)
  have hq_1 : r_1 ≤ 1048576 := by omega
  clear hsz
  go_wp2_with fail
  have K0 := fun (u : World) (k : Below w4.heap.size w4 u) => show RdSS u u.heap.size A0 X0 from (R0.below (B4.trans (k.mono B4.size))).more (B4.trans (k.mono B4.size)).size
  have K1 := fun (u : World) (k : Below w4.heap.size w4 u) => show RdSS u u.heap.size A1 X1 from (R1.below (B4.trans (k.mono B4.size))).more (B4.trans (k.mono B4.size)).size
  have KE := fun (u : World) (k : Below w4.heap.size w4 u) => show Below w4.heap.size w4 u ∧ u.cell? ⟨W.heap.size, 0, none⟩ = some (.int .i64 N0) ∧ u.cell? ⟨W.heap.size, 1, none⟩ = some (.slice A0 X0.length c0) ∧ u.cell? ⟨W.heap.size + 1, 0, none⟩ = some (.int .i64 N1) ∧ u.cell? ⟨W.heap.size + 1, 1, none⟩ = some (.slice A1 X1.length c1) from ⟨k, (X_aA.new k).two.1, (X_aA.new k).two.2, (X_aB.new k).two.1, (X_aB.new k).two.2⟩
  have hq0 : X0.length ≤ 140000000 ∧ X1.length ≤ 140000000 := by omega
  have HT0 := fun (u : World) (k : RdSS u u.heap.size A0 X0) => toGraph_any (N := N0) (X := X0) (c := c0) (Lib.hid rfl) (by omega) (Lib.hid (fun x hx => Nat.le_trans (hs0.out x hx) (by omega))) k
  have HT1 := fun (u : World) (k : RdSS u u.heap.size A1 X1) => toGraph_any (N := N1) (X := X1) (c := c1) (Lib.hid rfl) (by omega) (Lib.hid (fun x hx => Nat.le_trans (hs1.out x hx) (by omega))) k
  have HU0 := Lib.hid HT0
  have HU1 := Lib.hid HT1
  have HK0 := Lib.hid K0
  have HK1 := Lib.hid K1
  clear HT0 HT1 K0 K1
  go_region_held3 (fun u => Below w4.heap.size w4 u ∧ u.cell? ⟨W.heap.size, 0, none⟩ = some (.int .i64 N0) ∧ u.cell? ⟨W.heap.size, 1, none⟩ = some (.slice A0 X0.length c0) ∧ u.cell? ⟨W.heap.size + 1, 0, none⟩ = some (.int .i64 N1) ∧ u.cell? ⟨W.heap.size + 1, 1, none⟩ = some (.slice A1 X1.length c1)) (first | assumption | with_reducible exact KE _ (Below.refl _ _) | with_reducible exact KE _ (Below.refl _ _).drew | with_reducible exact KE _ k9 | with_reducible exact KE _ (Below.drew k9))
    (first
    | (go_at_call 22; (with_reducible refine (HU0.out _ (HK0.out _ (‹Below w4.heap.size w4 _ ∧ _›).1)).mono ?_); rintro e w5 ⟨v5, rfl, hr5, hb5⟩; obtain ⟨E2, k2, rfl, _, hk2, hm2⟩ := hr5.rd (n := X0.length) rfl; have k9 := trans_new (‹Below w4.heap.size w4 _ ∧ _›).1 hb5; have s5 := hb5.size)
    | (go_at_call 22; (with_reducible refine (HU1.out _ (HK1.out _ (‹Below w4.heap.size w4 _ ∧ _›).1)).mono ?_); rintro e w6 ⟨v6, rfl, hr6, hb6⟩; obtain ⟨E4, k4, rfl, _, hk4, hm4⟩ := hr6.rd (n := X1.length) rfl; replace hr5 := hr5.new hb6; have k9 := trans_new (‹Below w4.heap.size w4 _ ∧ _›).1 hb6; have s6 : w5.heap.size ≤ w6.heap.size := hb6.size)
    | (go_at_call 30; (with_reducible refine (HS.out _ _ _ _ _ (by omega) hs0 (by omega) (by omega) (by assumption) (hr5.rd'.more (by omega)) (by omega) hs1 (by omega) (by omega) (by assumption) (hr6.rd'.more (by omega))).mono ?_); rintro e w7 ⟨rfl, hb7⟩; have k9 := trans_new (‹Below w4.heap.size w4 _ ∧ _›).1 hb7))
  clear KE HU0 HU1 HK0 HK1 C_aA_0 C_aA_1 C_aB_0 C_aB_1
  have hbz := k9
  clear k9
  have s7 := hbz.size
  replace X_aA := X_aA.new hbz
  replace X_aB := X_aB.new hbz
  have B7 := B4.trans (hbz.mono B4.size)
  obtain ⟨C_aA_0, C_aA_1⟩ := X_aA.two
  obtain ⟨C_aB_0, C_aB_1⟩ := X_aB.two
  go_wp2_with fail
  refine (toGraph_any (X := X0) (Lib.hid rfl) (by omega) (Lib.hid (fun x hx => Nat.le_trans (hs0.out x hx) (by omega))) ((R0.below B7).more (by omega))).mono ?_
  rintro e w8 ⟨v, rfl, hr, hb⟩
  obtain ⟨E5, k5, rfl, _, hk5, hm5⟩ := hr.rd (n := X0.length) rfl
  clear C_aA_0 C_aA_1
  clear C_aB_0 C_aB_1
  have s8 := hb.size
  replace X_aA := X_aA.new hb
  replace X_aB := X_aB.new hb
  have B8 := B7.trans (hb.mono B7.size)
  obtain ⟨C_aA_0, C_aA_1⟩ := X_aA.two
  obtain ⟨C_aB_0, C_aB_1⟩ := X_aB.two
  have Q_x0 := hr
  clear hr hb
  obtain ⟨D_aA_0, D_aA_1⟩ := (X_aA.new ((Below.refl _ _).alloc (Nat.le_refl _) (Obj.cells #[.int .i64 N0, .slice E5 X0.length k5] 40))).two
  obtain ⟨D_aB_0, D_aB_1⟩ := (X_aB.new ((Below.refl _ _).alloc (Nat.le_refl _) (Obj.cells #[.int .i64 N0, .slice E5 X0.length k5] 40))).two
  go_wp2_with fail
  clear D_aA_0 D_aA_1 D_aB_0 D_aB_1
  obtain ⟨w9, hw⟩ : ∃ u : World, u = w8.alloc (Obj.cells #[.int .i64 N0, .slice E5 X0.length k5] 40) := ⟨_, rfl⟩
  rw [← hw]
  have hb : Below w8.heap.size w8 w9 := by rw [hw]; exact (Below.refl _ _).alloc (Nat.le_refl _) _
  have hbx : Bx w9 w8.heap.size 40 #[.int .i64 N0, .slice E5 X0.length k5] := by rw [hw]; exact Bx.made _ _ _
  clear hw
  clear C_aA_0 C_aA_1
  clear C_aB_0 C_aB_1
  have s9 := hb.size
  replace Q_x0 := Q_x0.new hb
  replace X_aA := X_aA.new hb
  replace X_aB := X_aB.new hb
  have B9 := B8.trans (hb.mono B8.size)
  obtain ⟨C_aA_0, C_aA_1⟩ := X_aA.two
  obtain ⟨C_aB_0, C_aB_1⟩ := X_aB.two
  have X_x0 := hbx
  obtain ⟨C_x0_0, C_x0_1⟩ := X_x0.two
  have l9 := hbx.lt
  clear hb hbx
  try (go_wp2_with fail)
  refine (toGraph_any (X := X1) (Lib.hid rfl) (by omega) (Lib.hid (fun x hx => Nat.le_trans (hs1.out x hx) (by omega))) ((R1.below B9).more (by omega))).mono ?_
  rintro e w10 ⟨v, rfl, hr, hb⟩
  obtain ⟨E6, k6, rfl, _, hk6, hm6⟩ := hr.rd (n := X1.length) rfl
  clear C_aA_0 C_aA_1
  clear C_aB_0 C_aB_1
  clear C_x0_0 C_x0_1
  have s10 := hb.size
  replace Q_x0 := Q_x0.new hb
  replace X_aA := X_aA.new hb
  replace X_aB := X_aB.new hb
  replace X_x0 := X_x0.new hb
  have B10 := B9.trans (hb.mono B9.size)
  obtain ⟨C_aA_0, C_aA_1⟩ := X_aA.two
  obtain ⟨C_aB_0, C_aB_1⟩ := X_aB.two
  obtain ⟨C_x0_0, C_x0_1⟩ := X_x0.two
  have Q_x1 := hr
  clear hr hb
  obtain ⟨D_aA_0, D_aA_1⟩ := (X_aA.new ((Below.refl _ _).alloc (Nat.le_refl _) (Obj.cells #[.int .i64 N1, .slice E6 X1.length k6] 40))).two
  obtain ⟨D_aB_0, D_aB_1⟩ := (X_aB.new ((Below.refl _ _).alloc (Nat.le_refl _) (Obj.cells #[.int .i64 N1, .slice E6 X1.length k6] 40))).two
  obtain ⟨D_x0_0, D_x0_1⟩ := (X_x0.new ((Below.refl _ _).alloc (Nat.le_refl _) (Obj.cells #[.int .i64 N1, .slice E6 X1.length k6] 40))).two
  go_wp2_with fail
  clear D_aA_0 D_aA_1 D_aB_0 D_aB_1 D_x0_0 D_x0_1
  obtain ⟨w11, hw⟩ : ∃ u : World, u = w10.alloc (Obj.cells #[.int .i64 N1, .slice E6 X1.length k6] 40) := ⟨_, rfl⟩
  rw [← hw]
  have hb : Below w10.heap.size w10 w11 := by rw [hw]; exact (Below.refl _ _).alloc (Nat.le_refl _) _
  have hbx : Bx w11 w10.heap.size 40 #[.int .i64 N1, .slice E6 X1.length k6] := by rw [hw]; exact Bx.made _ _ _
  clear hw
  clear C_aA_0 C_aA_1
  clear C_aB_0 C_aB_1
  clear C_x0_0 C_x0_1
  have s11 := hb.size
  replace Q_x0 := Q_x0.new hb
  replace Q_x1 := Q_x1.new hb
  replace X_aA := X_aA.new hb
  replace X_aB := X_aB.new hb
  replace X_x0 := X_x0.new hb
  have B11 := B10.trans (hb.mono B10.size)
  obtain ⟨C_aA_0, C_aA_1⟩ := X_aA.two
  obtain ⟨C_aB_0, C_aB_1⟩ := X_aB.two
  obtain ⟨C_x0_0, C_x0_1⟩ := X_x0.two
  have X_x1 := hbx
  obtain ⟨C_x1_0, C_x1_1⟩ := X_x1.two
  have l11 := hbx.lt
  clear hb hbx
  try (go_wp2_with fail)
  refine ((HI.out w11 _ _ _ _ (by omega) hs0 (by omega) (by omega) (by assumption) (Q_x0.rd'.more (by omega)) (by omega) hs1 (by omega) (by omega) (by assumption) (Q_x1.rd'.more (by omega)))).mono ?_
  rintro e w12 ⟨rfl, hb⟩
  clear C_aA_0 C_aA_1
  clear C_aB_0 C_aB_1
  clear C_x0_0 C_x0_1
  clear C_x1_0 C_x1_1
  have s12 := hb.size
  replace Q_x0 := Q_x0.new hb
  replace Q_x1 := Q_x1.new hb
  replace X_aA := X_aA.new hb
  replace X_aB := X_aB.new hb
  replace X_x0 := X_x0.new hb
  replace X_x1 := X_x1.new hb
  have B12 := B11.trans (hb.mono B11.size)
  obtain ⟨C_aA_0, C_aA_1⟩ := X_aA.two
  obtain ⟨C_aB_0, C_aB_1⟩ := X_aB.two
  obtain ⟨C_x0_0, C_x0_1⟩ := X_x0.two
  obtain ⟨C_x1_0, C_x1_1⟩ := X_x1.two
  clear hb
  go_wp2_with fail
  go_region_held3 (fun w' => w'.cell? ⟨w8.heap.size, 0, none⟩ = some (.int .i64 N0) ∧ w'.cell? ⟨w8.heap.size, 1, none⟩ = some (.slice E5 X0.length k5) ∧ w'.cell? ⟨W.heap.size, 0, none⟩ = some (.int .i64 N0) ∧ w'.cell? ⟨W.heap.size, 1, none⟩ = some (.slice A0 X0.length c0) ∧ Below w12.heap.size w12 w') (refine ⟨?_, ?_, ?_, ?_, ?_⟩ <;> first | assumption | exact C_x0_0 | exact C_x0_1 | exact C_aA_0 | exact C_aA_1 | exact (Below.refl _ _).drew | exact Below.drew ‹_› | exact c1 | exact c2 | exact c3 | exact c4 | exact Below.drew k9)
    (first
      | (go_at_call 22; refine (toGraph_any (X := X0) (Lib.hid rfl) (by omega) (Lib.hid (fun x hx => Nat.le_trans (hs0.out x hx) (by omega))) (arg_rd R0 B12 (‹_ ∧ _ ∧ _ ∧ _ ∧ Below w12.heap.size w12 _›).2.2.2.2)).mono ?_; rintro e u9 ⟨v, rfl, hr, hb9⟩; obtain ⟨E7, k7, rfl, _, hk7, hm7⟩ := hr.rd (n := X0.length) rfl; have k9 := trans_new (‹_ ∧ _ ∧ _ ∧ _ ∧ Below w12.heap.size w12 _›).2.2.2.2 hb9; obtain ⟨c1, c2⟩ := (X_x0.new k9).two; obtain ⟨c3, c4⟩ := (X_aA.new k9).two)
      | (go_at_call 25; refine (eqGraph_same (X := X0) (Lib.hid rfl) (by omega) (Lib.hid (fun x hx => Nat.le_trans (hs0.out x hx) (by omega))) ((Q_x0.new k9).rd'.more (by have := k9.size; omega)) hr.rd').mono ?_; rintro e w13 ⟨he, hb10⟩; subst he; have hb := trans_new k9 hb10; obtain ⟨d1, d2⟩ := (X_x0.new hb).two; obtain ⟨d3, d4⟩ := (X_aA.new hb).two))
  clear k9 hb10 hb9 hr c1 c2 c3 c4 d1 d2 d3 d4
  clear C_aA_0 C_aA_1
  clear C_aB_0 C_aB_1
  clear C_x0_0 C_x0_1
  clear C_x1_0 C_x1_1
  have s13 := hb.size
  replace Q_x0 := Q_x0.new hb
  replace Q_x1 := Q_x1.new hb
  replace X_aA := X_aA.new hb
  replace X_aB := X_aB.new hb
  replace X_x0 := X_x0.new hb
  replace X_x1 := X_x1.new hb
  have B13 := B12.trans (hb.mono B12.size)
  obtain ⟨C_aA_0, C_aA_1⟩ := X_aA.two
  obtain ⟨C_aB_0, C_aB_1⟩ := X_aB.two
  obtain ⟨C_x0_0, C_x0_1⟩ := X_x0.two
  obtain ⟨C_x1_0, C_x1_1⟩ := X_x1.two
  clear hb
  go_wp2_with fail
  go_region_held3 (fun w' => w'.cell? ⟨w10.heap.size, 0, none⟩ = some (.int .i64 N1) ∧ w'.cell? ⟨w10.heap.size, 1, none⟩ = some (.slice E6 X1.length k6) ∧ w'.cell? ⟨W.heap.size + 1, 0, none⟩ = some (.int .i64 N1) ∧ w'.cell? ⟨W.heap.size + 1, 1, none⟩ = some (.slice A1 X1.length c1) ∧ Below w13.heap.size w13 w') (refine ⟨?_, ?_, ?_, ?_, ?_⟩ <;> first | assumption | exact C_x1_0 | exact C_x1_1 | exact C_aB_0 | exact C_aB_1 | exact (Below.refl _ _).drew | exact Below.drew ‹_› | exact c1 | exact c2 | exact c3 | exact c4 | exact Below.drew k9)
    (first
      | (go_at_call 22; refine (toGraph_any (X := X1) (Lib.hid rfl) (by omega) (Lib.hid (fun x hx => Nat.le_trans (hs1.out x hx) (by omega))) (arg_rd R1 B13 (‹_ ∧ _ ∧ _ ∧ _ ∧ Below w13.heap.size w13 _›).2.2.2.2)).mono ?_; rintro e u9 ⟨v, rfl, hr, hb9⟩; obtain ⟨E8, k8, rfl, _, hk8, hm8⟩ := hr.rd (n := X1.length) rfl; have k9 := trans_new (‹_ ∧ _ ∧ _ ∧ _ ∧ Below w13.heap.size w13 _›).2.2.2.2 hb9; obtain ⟨c1, c2⟩ := (X_x1.new k9).two; obtain ⟨c3, c4⟩ := (X_aB.new k9).two)
      | (go_at_call 25; refine (eqGraph_same (X := X1) (Lib.hid rfl) (by omega) (Lib.hid (fun x hx => Nat.le_trans (hs1.out x hx) (by omega))) ((Q_x1.new k9).rd'.more (by have := k9.size; omega)) hr.rd').mono ?_; rintro e w14 ⟨he, hb10⟩; subst he; have hb := trans_new k9 hb10; obtain ⟨d1, d2⟩ := (X_x1.new hb).two; obtain ⟨d3, d4⟩ := (X_aB.new hb).two))
  clear k9 hb10 hb9 hr c1 c2 c3 c4 d1 d2 d3 d4
  clear C_aA_0 C_aA_1
  clear C_aB_0 C_aB_1
  clear C_x0_0 C_x0_1
  clear C_x1_0 C_x1_1
  have s14 := hb.size
  replace Q_x0 := Q_x0.new hb
  replace Q_x1 := Q_x1.new hb
  replace X_aA := X_aA.new hb
  replace X_aB := X_aB.new hb
  replace X_x0 := X_x0.new hb
  replace X_x1 := X_x1.new hb
  have B14 := B13.trans (hb.mono B13.size)
  obtain ⟨C_aA_0, C_aA_1⟩ := X_aA.two
  obtain ⟨C_aB_0, C_aB_1⟩ := X_aB.two
  obtain ⟨C_x0_0, C_x0_1⟩ := X_x0.two
  obtain ⟨C_x1_0, C_x1_1⟩ := X_x1.two
  clear hb
  go_wp2_with fail
  go_ret
  exact ⟨rfl, B14⟩
theorem contract (H : Type) (enc : TypeId × Value → H) (W : World) (base : Nat) (args : Array Value) (ds gs : List (DataW H)) (before : List MemPlace)
    (hval : ∀ (j : Nat) t v, Try.f5.params[j]? = some t → args[j]? = some v → Value.okWide Try.prog W .any base t v)
    (hW : DataW.Whole enc Try.prog Try.f5.params.toList Rows.fnExactIsPartOfSpec.vars false W args.toList ds gs before) (hL : laidMetH Try.prog Rows.fnExactIsPartOfRow.laid W)
    (hreach : (DataW.weightsEach Try.prog (Try.f5.params.toList ++ (OpenSpec.ofChange Rows.fnExactIsPartOfSpec).bare.plain.varTypes Try.prog) (ds ++ gs)).all (· ≤ reachBytes) = true) :
    Calls Try.prog 5 args W fun e W' => ∃ v, e = .returned v ∧ Rows.fnExactIsPartOfSpec.post enc Try.prog Try.f5 false true false false W args v W' := by
  have hW' := hW
  obtain ⟨p, q, hA0, hV, rfl, hfz, hnd⟩ := hW
  have hA : DataW.TrodAll enc Try.prog W 0 (fun _ => true) true Try.f5.params.toList args.toList ds p := hA0
  rw [Try.params5] at hA hval
  obtain ⟨v0, vs0, d0, ds0, p0, q0, hargs, rfl, rfl, h0, r0⟩ := trodAll_cons hA
  obtain ⟨v1, vs1, d1, ds1, p1, q1, rfl, rfl, rfl, h1, r1⟩ := trodAll_cons r0
  obtain ⟨rfl, rfl, rfl⟩ := trodAll_nil r1
  obtain rfl : args = #[v0, v1] := by cases args; simp_all
  obtain ⟨rfl, rfl⟩ := trodVars_none hV
  obtain ⟨N0, A0, c0, X0, rfl, R0, hc0, hm0, hN0, hb0⟩ := graph_open (hval 0 38 v0 rfl rfl) h0
  obtain ⟨N1, A1, c1, X1, rfl, R1, hc1, hm1, hN1, hb1⟩ := graph_open (hval 1 38 v1 rfl rfl) h1
  clear hA0 hval
  have walked : Calls Try.prog 5 #[.agg #[.int .i64 N0, .slice A0 X0.length c0], .agg #[.int .i64 N1, .slice A1 X1.length c1]] W fun e W' => e = .returned (.bool true) ∧ Below W.heap.size W W' := by
    exact core (x0 := partB N0 X0 N1 X1) R0 hc0 hm0 R1 hc1 hm1 (fun w B d B' d' hz hs hp hd hm hr hz' hs' hp' hd' hm' hr' => specIsPartOf_any (Lib.hid rfl) (by omega) hr (Lib.hid rfl) (by omega) hr') (fun w B d B' d' hz hs hp hd hm hr hz' hs' hp' hd' hm' hr' => impIsPartOf_any (Lib.hid rfl) (by omega) hr (Lib.hid rfl) (by omega) hr')
  refine walked.mono fun e W' ⟨he, hb⟩ => ?_
  exact ⟨_, he, post_true (tb := 4) hW' rfl Try.underlying4 rfl rfl (by kernel_rfl) (by kernel_rfl) hb⟩
noncomputable def laidWorld (os : Os) : World := World.holding Try.prog os ⟨#[], #[], []⟩
theorem laid_met (os : Os) : laidMet Try.prog Rows.fnExactIsPartOfRow.laid ((laidWorld os).forCall (fun _ _ => 0) ⟨#[], #[Value.agg #[.int .i64 0, .slice none 0 0], Value.agg #[.int .i64 0, .slice none 0 0]], []⟩).memory :=
  laidMet_of_run' 8 (by kernel_rfl) (by kernel_rfl)
theorem reads (os : Os) {H : Type} (enc : TypeId × Value → H) : ∃ places, DataW.whole enc Try.prog ((laidWorld os).forCall (fun _ _ => 0) ⟨#[], #[Value.agg #[.int .i64 0, .slice none 0 0], Value.agg #[.int .i64 0, .slice none 0 0]], []⟩).memory Try.f5.params.toList Rows.fnExactIsPartOfSpec.vars false (#[Value.agg #[.int .i64 0, .slice none 0 0], Value.agg #[.int .i64 0, .slice none 0 0]]).toList 8 = some ([.agg [.lit (.int .i64 0), .nil], .agg [.lit (.int .i64 0), .nil]], [], places) :=
  ⟨[], by kernel_rfl⟩
set_option maxRecDepth 100000 in
theorem lifted (os : Os) (started : os.Started) (H : Type) (enc : TypeId × Value → H) (F : Stop.Interp) :
    ReturnsInHanded {} Try.checked os 5 .any ((OpenSpec.ofChange Rows.fnExactIsPartOfSpec).preRow enc Try.prog Try.f5 Rows.fnExactIsPartOfRow.domain false Rows.fnExactIsPartOfRow.laid) (((OpenSpec.ofChange Rows.fnExactIsPartOfSpec).at F).post enc Try.prog Try.f5 false true false false) := by
  obtain ⟨places, hx⟩ := reads os enc
  refine returnsInHanded_of_row (C := Try.checked) (s := (OpenSpec.ofChange Rows.fnExactIsPartOfSpec)) own started (by kernel_rfl) Try.func5
    (witness_row_at (enc := enc) (C := Try.checked) false (laidWorld os) #[Value.agg #[.int .i64 0, .slice none 0 0], Value.agg #[.int .i64 0, .slice none 0 0]] rfl (by kernel_rfl) (by kernel_rfl) (by kernel_rfl)
      (OpenSpec.preRow_of_cond 8 hx (by kernel_rfl) (fun k hk => by cases hk) (by kernel_rfl) (laid_met os))) ?_
  intro W base args ds gs before hval hW _ hcond hreach hL _ _
  exact contract H enc W base args ds gs before hval hW hL hreach
theorem said : Rows.FnExactIsPartOfSaid :=
  OpenClaim.holds_of_cond 5 Try.f5 rfl rfl rfl rfl rfl rfl rfl ⟨rfl, rfl, rfl, rfl, rfl⟩ rfl rfl rfl rfl rfl (by kernel_rfl) Try.func5 (by kernel_rfl)
    (of_decide_eq_true (by kernel_rfl)) (by unfold Func.isWrapper; first | (rw [if_pos (by decide +kernel)]; kernel_rfl) | (rw [if_neg (by decide +kernel)]; exact ⟨rfl, rfl⟩))
    (fun os started H enc _ F => by rw [OpenClaim.pre_eq_preRow]; exact lifted os started H enc F)
#print axioms said
end Go.Proofs.Ythhdklmdldikfab.fnExactIsPartOf
