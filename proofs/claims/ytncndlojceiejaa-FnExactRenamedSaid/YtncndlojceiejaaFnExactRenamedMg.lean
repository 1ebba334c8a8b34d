/- Proves the given statement of the law 'FnExactRenamed': at every input that the statement admits, the law returns true and leaves its arguments as they were. Conditions: those of the given row, no other. -/
import Derived.Test.YtncndlojceiejaaRows
import Derived.LaidHandle
import Derived.LaidLaws
import Derived.Stop.Joined
import Derived.Stop.LaidErr
import Derived.ChangeMaps5
import Derived.WalkKit
import Derived.ProofKit
import Derived.OpenShut
import Derived.Deep.DeepHandedRow
import Derived.Lib.LaidTab
import Derived.Deep.RegionHeld3
import Derived.Test.YtncndlojceiejaaMg0
import Derived.Test.YtncndlojceiejaaRenM
import Derived.Test.YtncndlojceiejaaRenR
import Derived.Test.YtncndlojceiejaaOpen
import Derived.Test.YtncndlojceiejaaMg2
import Derived.Test.YtncndlojceiejaaMg4
namespace Go.Proofs.Ytncndlojceiejaa.fnExactRenamed
open Go.ChangeShapes Go.WideShapes Go.ChangeAt Go.RowKit
set_option linter.unusedVariables false
set_option maxRecDepth 100000
theorem own : ownKnob Try.prog.godebug = none := by kernel_rfl
theorem ucells : Try.prog.cellsOf 5 = 1 := by kernel_rfl
set_option maxHeartbeats 4000000 in
set_option maxRecDepth 100000 in
theorem core {W : World} {N0 : Int} {A0 : Option Addr} {c0 : Nat} {X0 : List (List Int)} (R0 : RdSS W W.heap.size A0 X0) (hc0 : X0.length ≤ c0) (hm0 : c0 ≤ maxLen) {A1 : Option Addr} {c1 : Nat} {z1 : List Int} (R1 : Rd W W.heap.size A1 (ivs z1)) (hc1 : z1.length ≤ c1) {M0 : Int} {r0 : List (List Int)} (hr0 : r0.length ≤ 140000000) (hrs0 : Hid (∀ x ∈ r0, x.length ≤ 1099511627776)) (hrp0 : psum r0 r0.length ≤ 140000000) {x1 : Bool}
    (hS : ∀ (w : World) (B0 : Option Addr) (d0 : Nat) (B1 : Option Addr) (d1 : Nat), X0.length ≤ 1048576 → Hid (∀ x ∈ X0, x.length ≤ 1048576) → psum X0 X0.length ≤ 1048576 → X0.length ≤ d0 → d0 ≤ maxLen → RdSS w w.heap.size B0 X0 → z1.length ≤ 1048576 → z1.length ≤ d1 → d1 ≤ maxLen → Rd w w.heap.size B1 (ivs z1) → Calls Try.prog 26 #[.agg #[.int .i64 N0, .slice B0 X0.length d0], .slice B1 z1.length d1] w (fun e w' => ∃ v0 : Value, e = .returned (.tuple #[.agg #[.int .i64 M0, v0], .bool x1]) ∧ OwnSS w' w.heap.size w'.heap.size v0 r0 ∧ Below w.heap.size w w'))
    (hI : ∀ (w : World) (B0 : Option Addr) (d0 : Nat) (B1 : Option Addr) (d1 : Nat), X0.length ≤ 1048576 → Hid (∀ x ∈ X0, x.length ≤ 1048576) → psum X0 X0.length ≤ 1048576 → X0.length ≤ d0 → d0 ≤ maxLen → RdSS w w.heap.size B0 X0 → z1.length ≤ 1048576 → z1.length ≤ d1 → d1 ≤ maxLen → Rd w w.heap.size B1 (ivs z1) → Calls Try.prog 28 #[.agg #[.int .i64 N0, .slice B0 X0.length d0], .slice B1 z1.length d1] w (fun e w' => ∃ v0 : Value, e = .returned (.tuple #[.agg #[.int .i64 M0, v0], .bool x1]) ∧ OwnSS w' w.heap.size w'.heap.size v0 r0 ∧ Below w.heap.size w w')) :
    Calls Try.prog 6 #[.agg #[.int .i64 N0, .slice A0 X0.length c0], .slice A1 z1.length c1] W (fun e W' => e = .returned (.bool true) ∧ Below W.heap.size W W') := by
  have HS := Lib.hid hS
  have HI := Lib.hid hI
  clear hS hI
  have early : Below W.heap.size W (W.alloc (Obj.cells #[.int .i64 N0, .slice A0 X0.length c0] 24)) := ((Below.refl _ _).alloc (by simp) _)
  by_cases hz1 : 1048576 < z1.length
  · go_enter Try.func6, Try.ntmps6
    go_wp2_with fail
    go_ret
    exact ⟨rfl, early⟩
  have hy1 : z1.length ≤ 1048576 := by omega
  clear hz1
  clear early
  have B0 : Below W.heap.size W W := Below.refl _ _
  go_enter Try.func6, Try.ntmps6
  go_wp2_with fail
  obtain ⟨w1, hw⟩ : ∃ u : World, u = W.alloc (Obj.cells #[.int .i64 N0, .slice A0 X0.length c0] 24) := ⟨_, rfl⟩
  rw [← hw]
  have hb : Below W.heap.size W w1 := by rw [hw]; exact (Below.refl _ _).alloc (Nat.le_refl _) _
  have hbx : Bx w1 W.heap.size 24 #[.int .i64 N0, .slice A0 X0.length c0] := by rw [hw]; exact Bx.made _ _ _
  clear hw
  have s1 := hb.size
  have B1 := B0.trans (hb.mono B0.size)
  have X_aG := hbx
  obtain ⟨C_aG_0, C_aG_1⟩ := X_aG.two
  have l1 := hbx.lt
  clear hb hbx
  try (go_wp2_with fail)
  refine (szGraph_any (q := 1048576) (X := X0) (Lib.hid rfl) (by unfold maxLen at hm0; omega) (by omega) (by omega) ((R0.below B1).more (by omega))).mono ?_
  rintro e w2 ⟨r_0, rfl, hb, hr⟩
  clear C_aG_0 C_aG_1
  have s2 := hb.size
  replace X_aG := X_aG.new hb
  have B2 := B1.trans (hb.mono B1.size)
  obtain ⟨C_aG_0, C_aG_1⟩ := X_aG.two
  clear hb
  rcases hr with rfl | ⟨hr_0, hsz⟩
  · go_wp2_with fail
    go_ret
    exact ⟨rfl, B2⟩
  have hy0 : X0.length ≤ 1048576 := by omega
  have hp0 : psum X0 X0.length ≤ 1048576 := by omega
  have hs0 : Hid (∀ x ∈ X0, x.length ≤ 1048576) := Lib.hid (fun x hx => Nat.le_trans (psum_mem X0 x hx) hp0)
  have hq_0 : r_0 ≤ 1048576 := by omega
  clear hsz
  go_wp2_with fail
  refine (toGraph_any (X := X0) (Lib.hid rfl) (by omega) (Lib.hid (fun x hx => Nat.le_trans (hs0.out x hx) (by omega))) ((R0.below B2).more (by omega))).mono ?_
  rintro e w3 ⟨v, rfl, hr, hb⟩
  obtain ⟨E2, k2, rfl, _, hk2, hm2⟩ := hr.rd (n := X0.length) rfl
  clear C_aG_0 C_aG_1
  have s3 := hb.size
  replace X_aG := X_aG.new hb
  have B3 := B2.trans (hb.mono B2.size)
  obtain ⟨C_aG_0, C_aG_1⟩ := X_aG.two
  have Q_t1 := hr
  clear hr hb
  go_wp2_with fail
  refine (toIntS_any (zs := z1) (Lib.hid rfl) (by omega) ((R1.below B3).more (by omega))).mono ?_
  rintro e w4 ⟨v, rfl, hr, hb⟩
  obtain ⟨E4, k4, rfl, _, hk4, hm4⟩ := hr.rd (ivs_len z1)
  clear C_aG_0 C_aG_1
  have s4 := hb.size
  replace Q_t1 := Q_t1.new hb
  replace X_aG := X_aG.new hb
  have B4 := B3.trans (hb.mono B3.size)
  obtain ⟨C_aG_0, C_aG_1⟩ := X_aG.two
  have Q_t3 := hr
  clear hr hb
  go_wp2_with fail
  refine ((HS.out w4 _ _ _ _ (by omega) hs0 (by omega) (by omega) (by assumption) (Q_t1.rd'.more (by omega)) (by omega) (by omega) (by assumption) (Q_t3.rd'.more (by omega)))).mono ?_
  rintro e w5 ⟨v, rfl, hr, hb⟩
  obtain ⟨E5, k5, rfl, _, hk5, hm5⟩ := hr.rd (n := r0.length) rfl
  clear Q_t1
  clear Q_t3
  clear C_aG_0 C_aG_1
  have s5 := hb.size
  replace X_aG := X_aG.new hb
  have B5 := B4.trans (hb.mono B4.size)
  obtain ⟨C_aG_0, C_aG_1⟩ := X_aG.two
  have Q_w0 := hr
  clear hr
  clear hb
  obtain ⟨D_aG_0, D_aG_1⟩ := (X_aG.new ((Below.refl _ _).alloc (Nat.le_refl _) (Obj.cells #[.int .i64 M0, .slice E5 r0.length k5] 26))).two
  go_wp2_with fail
  clear D_aG_0 D_aG_1
  obtain ⟨w6, hw⟩ : ∃ u : World, u = w5.alloc (Obj.cells #[.int .i64 M0, .slice E5 r0.length k5] 26) := ⟨_, rfl⟩
  rw [← hw]
  have hb : Below w5.heap.size w5 w6 := by rw [hw]; exact (Below.refl _ _).alloc (Nat.le_refl _) _
  have hbx : Bx w6 w5.heap.size 26 #[.int .i64 M0, .slice E5 r0.length k5] := by rw [hw]; exact Bx.made _ _ _
  clear hw
  clear C_aG_0 C_aG_1
  have s6 := hb.size
  replace Q_w0 := Q_w0.new hb
  replace X_aG := X_aG.new hb
  have B6 := B5.trans (hb.mono B5.size)
  obtain ⟨C_aG_0, C_aG_1⟩ := X_aG.two
  have X_w0 := hbx
  obtain ⟨C_w0_0, C_w0_1⟩ := X_w0.two
  have l6 := hbx.lt
  clear hb hbx
  try (go_wp2_with fail)
  refine (toGraph_any (X := X0) (Lib.hid rfl) (by omega) (Lib.hid (fun x hx => Nat.le_trans (hs0.out x hx) (by omega))) ((R0.below B6).more (by omega))).mono ?_
  rintro e w7 ⟨v, rfl, hr, hb⟩
  obtain ⟨E6, k6, rfl, _, hk6, hm6⟩ := hr.rd (n := X0.length) rfl
  clear C_aG_0 C_aG_1
  clear C_w0_0 C_w0_1
  have s7 := hb.size
  replace Q_w0 := Q_w0.new hb
  replace X_aG := X_aG.new hb
  replace X_w0 := X_w0.new hb
  have B7 := B6.trans (hb.mono B6.size)
  obtain ⟨C_aG_0, C_aG_1⟩ := X_aG.two
  obtain ⟨C_w0_0, C_w0_1⟩ := X_w0.two
  have Q_x0 := hr
  clear hr hb
  obtain ⟨D_aG_0, D_aG_1⟩ := (X_aG.new ((Below.refl _ _).alloc (Nat.le_refl _) (Obj.cells #[.int .i64 N0, .slice E6 X0.length k6] 26))).two
  obtain ⟨D_w0_0, D_w0_1⟩ := (X_w0.new ((Below.refl _ _).alloc (Nat.le_refl _) (Obj.cells #[.int .i64 N0, .slice E6 X0.length k6] 26))).two
  go_wp2_with fail
  clear D_aG_0 D_aG_1 D_w0_0 D_w0_1
  obtain ⟨w8, hw⟩ : ∃ u : World, u = w7.alloc (Obj.cells #[.int .i64 N0, .slice E6 X0.length k6] 26) := ⟨_, rfl⟩
  rw [← hw]
  have hb : Below w7.heap.size w7 w8 := by rw [hw]; exact (Below.refl _ _).alloc (Nat.le_refl _) _
  have hbx : Bx w8 w7.heap.size 26 #[.int .i64 N0, .slice E6 X0.length k6] := by rw [hw]; exact Bx.made _ _ _
  clear hw
  clear C_aG_0 C_aG_1
  clear C_w0_0 C_w0_1
  have s8 := hb.size
  replace Q_w0 := Q_w0.new hb
  replace Q_x0 := Q_x0.new hb
  replace X_aG := X_aG.new hb
  replace X_w0 := X_w0.new hb
  have B8 := B7.trans (hb.mono B7.size)
  obtain ⟨C_aG_0, C_aG_1⟩ := X_aG.two
  obtain ⟨C_w0_0, C_w0_1⟩ := X_w0.two
  have X_x0 := hbx
  obtain ⟨C_x0_0, C_x0_1⟩ := X_x0.two
  have l8 := hbx.lt
  clear hb hbx
  try (go_wp2_with fail)
  refine (toIntS_any (zs := z1) (Lib.hid rfl) (by omega) ((R1.below B8).more (by omega))).mono ?_
  rintro e w9 ⟨v, rfl, hr, hb⟩
  obtain ⟨E7, k7, rfl, _, hk7, hm7⟩ := hr.rd (ivs_len z1)
  clear C_aG_0 C_aG_1
  clear C_w0_0 C_w0_1
  clear C_x0_0 C_x0_1
  have s9 := hb.size
  replace Q_w0 := Q_w0.new hb
  replace Q_x0 := Q_x0.new hb
  replace X_aG := X_aG.new hb
  replace X_w0 := X_w0.new hb
  replace X_x0 := X_x0.new hb
  have B9 := B8.trans (hb.mono B8.size)
  obtain ⟨C_aG_0, C_aG_1⟩ := X_aG.two
  obtain ⟨C_w0_0, C_w0_1⟩ := X_w0.two
  obtain ⟨C_x0_0, C_x0_1⟩ := X_x0.two
  have Q_x1 := hr
  clear hr hb
  go_wp2_with fail
  refine ((HI.out w9 _ _ _ _ (by omega) hs0 (by omega) (by omega) (by assumption) (Q_x0.rd'.more (by omega)) (by omega) (by omega) (by assumption) (Q_x1.rd'.more (by omega)))).mono ?_
  rintro e w10 ⟨v, rfl, hr, hb⟩
  obtain ⟨E8, k8, rfl, _, hk8, hm8⟩ := hr.rd (n := r0.length) rfl
  clear C_aG_0 C_aG_1
  clear C_w0_0 C_w0_1
  clear C_x0_0 C_x0_1
  have s10 := hb.size
  replace Q_w0 := Q_w0.new hb
  replace Q_x0 := Q_x0.new hb
  replace Q_x1 := Q_x1.new hb
  replace X_aG := X_aG.new hb
  replace X_w0 := X_w0.new hb
  replace X_x0 := X_x0.new hb
  have B10 := B9.trans (hb.mono B9.size)
  obtain ⟨C_aG_0, C_aG_1⟩ := X_aG.two
  obtain ⟨C_w0_0, C_w0_1⟩ := X_w0.two
  obtain ⟨C_x0_0, C_x0_1⟩ := X_x0.two
  have Q_g0 := hr
  clear hr
  clear hb
  obtain ⟨D_aG_0, D_aG_1⟩ := (X_aG.new ((Below.refl _ _).alloc (Nat.le_refl _) (Obj.cells #[.int .i64 M0, .slice E8 r0.length k8] 26))).two
  obtain ⟨D_w0_0, D_w0_1⟩ := (X_w0.new ((Below.refl _ _).alloc (Nat.le_refl _) (Obj.cells #[.int .i64 M0, .slice E8 r0.length k8] 26))).two
  obtain ⟨D_x0_0, D_x0_1⟩ := (X_x0.new ((Below.refl _ _).alloc (Nat.le_refl _) (Obj.cells #[.int .i64 M0, .slice E8 r0.length k8] 26))).two
  go_wp2_with fail
  clear D_aG_0 D_aG_1 D_w0_0 D_w0_1 D_x0_0 D_x0_1
  obtain ⟨w11, hw⟩ : ∃ u : World, u = w10.alloc (Obj.cells #[.int .i64 M0, .slice E8 r0.length k8] 26) := ⟨_, rfl⟩
  rw [← hw]
  have hb : Below w10.heap.size w10 w11 := by rw [hw]; exact (Below.refl _ _).alloc (Nat.le_refl _) _
  have hbx : Bx w11 w10.heap.size 26 #[.int .i64 M0, .slice E8 r0.length k8] := by rw [hw]; exact Bx.made _ _ _
  clear hw
  clear C_aG_0 C_aG_1
  clear C_w0_0 C_w0_1
  clear C_x0_0 C_x0_1
  have s11 := hb.size
  replace Q_w0 := Q_w0.new hb
  replace Q_x0 := Q_x0.new hb
  replace Q_x1 := Q_x1.new hb
  replace Q_g0 := Q_g0.new hb
  replace X_aG := X_aG.new hb
  replace X_w0 := X_w0.new hb
  replace X_x0 := X_x0.new hb
  have B11 := B10.trans (hb.mono B10.size)
  obtain ⟨C_aG_0, C_aG_1⟩ := X_aG.two
  obtain ⟨C_w0_0, C_w0_1⟩ := X_w0.two
  obtain ⟨C_x0_0, C_x0_1⟩ := X_x0.two
  have X_g0 := hbx
  obtain ⟨C_g0_0, C_g0_1⟩ := X_g0.two
  have l11 := hbx.lt
  clear hb hbx
  try (go_wp2_with fail)
  refine (eqGraph_same (X := r0) (Lib.hid rfl) (by omega) hrs0 (Q_g0.rd'.more (by omega)) (Q_w0.rd'.more (by omega))).mono ?_
  rintro e w12 ⟨he, hb⟩
  subst he
  clear C_aG_0 C_aG_1
  clear C_w0_0 C_w0_1
  clear C_x0_0 C_x0_1
  clear C_g0_0 C_g0_1
  have s12 := hb.size
  replace Q_w0 := Q_w0.new hb
  replace Q_x0 := Q_x0.new hb
  replace Q_x1 := Q_x1.new hb
  replace Q_g0 := Q_g0.new hb
  replace X_aG := X_aG.new hb
  replace X_w0 := X_w0.new hb
  replace X_x0 := X_x0.new hb
  replace X_g0 := X_g0.new hb
  have B12 := B11.trans (hb.mono B11.size)
  obtain ⟨C_aG_0, C_aG_1⟩ := X_aG.two
  obtain ⟨C_w0_0, C_w0_1⟩ := X_w0.two
  obtain ⟨C_x0_0, C_x0_1⟩ := X_x0.two
  obtain ⟨C_g0_0, C_g0_1⟩ := X_g0.two
  clear hb
  go_wp2_with fail
  go_region_held3 (fun w' => w'.cell? ⟨w7.heap.size, 0, none⟩ = some (.int .i64 N0) ∧ w'.cell? ⟨w7.heap.size, 1, none⟩ = some (.slice E6 X0.length k6) ∧ w'.cell? ⟨W.heap.size, 0, none⟩ = some (.int .i64 N0) ∧ w'.cell? ⟨W.heap.size, 1, none⟩ = some (.slice A0 X0.length c0) ∧ Below w12.heap.size w12 w') (refine ⟨?_, ?_, ?_, ?_, ?_⟩ <;> first | assumption | exact C_x0_0 | exact C_x0_1 | exact C_aG_0 | exact C_aG_1 | exact (Below.refl _ _).drew | exact Below.drew ‹_› | exact c1 | exact c2 | exact c3 | exact c4 | exact Below.drew k9)
    (first
      | (go_at_call 9; refine (toGraph_any (X := X0) (Lib.hid rfl) (by omega) (Lib.hid (fun x hx => Nat.le_trans (hs0.out x hx) (by omega))) (arg_rd R0 B12 (‹_ ∧ _ ∧ _ ∧ _ ∧ Below w12.heap.size w12 _›).2.2.2.2)).mono ?_; rintro e u9 ⟨v, rfl, hr, hb9⟩; obtain ⟨E9, k9, rfl, _, hk9, hm9⟩ := hr.rd (n := X0.length) rfl; have k9 := trans_new (‹_ ∧ _ ∧ _ ∧ _ ∧ Below w12.heap.size w12 _›).2.2.2.2 hb9; obtain ⟨c1, c2⟩ := (X_x0.new k9).two; obtain ⟨c3, c4⟩ := (X_aG.new k9).two)
      | (go_at_call 11; refine (eqGraph_same (X := X0) (Lib.hid rfl) (by omega) (Lib.hid (fun x hx => Nat.le_trans (hs0.out x hx) (by omega))) ((Q_x0.new k9).rd'.more (by have := k9.size; omega)) hr.rd').mono ?_; rintro e w13 ⟨he, hb10⟩; subst he; have hb := trans_new k9 hb10; obtain ⟨d1, d2⟩ := (X_x0.new hb).two; obtain ⟨d3, d4⟩ := (X_aG.new hb).two))
  clear k9 hb10 hb9 hr c1 c2 c3 c4 d1 d2 d3 d4
  clear C_aG_0 C_aG_1
  clear C_w0_0 C_w0_1
  clear C_x0_0 C_x0_1
  clear C_g0_0 C_g0_1
  have s13 := hb.size
  replace Q_w0 := Q_w0.new hb
  replace Q_x0 := Q_x0.new hb
  replace Q_x1 := Q_x1.new hb
  replace Q_g0 := Q_g0.new hb
  replace X_aG := X_aG.new hb
  replace X_w0 := X_w0.new hb
  replace X_x0 := X_x0.new hb
  replace X_g0 := X_g0.new hb
  have B13 := B12.trans (hb.mono B12.size)
  obtain ⟨C_aG_0, C_aG_1⟩ := X_aG.two
  obtain ⟨C_w0_0, C_w0_1⟩ := X_w0.two
  obtain ⟨C_x0_0, C_x0_1⟩ := X_x0.two
  obtain ⟨C_g0_0, C_g0_1⟩ := X_g0.two
  clear hb
  go_wp2_with fail
  refine (toIntS_any (zs := z1) (Lib.hid rfl) (by omega) ((R1.below B13).more (by omega))).mono ?_
  rintro e w14 ⟨v, rfl, hr, hb⟩
  obtain ⟨E11, k11, rfl, _, hk11, hm11⟩ := hr.rd (ivs_len z1)
  clear C_aG_0 C_aG_1
  clear C_w0_0 C_w0_1
  clear C_x0_0 C_x0_1
  clear C_g0_0 C_g0_1
  have s14 := hb.size
  replace Q_w0 := Q_w0.new hb
  replace Q_x0 := Q_x0.new hb
  replace Q_x1 := Q_x1.new hb
  replace Q_g0 := Q_g0.new hb
  replace X_aG := X_aG.new hb
  replace X_w0 := X_w0.new hb
  replace X_x0 := X_x0.new hb
  replace X_g0 := X_g0.new hb
  have B14 := B13.trans (hb.mono B13.size)
  obtain ⟨C_aG_0, C_aG_1⟩ := X_aG.two
  obtain ⟨C_w0_0, C_w0_1⟩ := X_w0.two
  obtain ⟨C_x0_0, C_x0_1⟩ := X_x0.two
  obtain ⟨C_g0_0, C_g0_1⟩ := X_g0.two
  have Q_t10 := hr
  clear hr hb
  go_wp2_with fail
  refine (eqIntS_any (zs := z1) (ys := z1) (Lib.hid rfl) (Lib.hid rfl) (by omega) (by omega) (Q_x1.rd'.more (by omega)) (Q_t10.rd'.more (by omega))).mono ?_
  rintro e w15 ⟨he, hb⟩
  rw [show decide (z1 = z1) = true from decide_eq_true rfl] at he
  subst he
  clear Q_t10
  clear C_aG_0 C_aG_1
  clear C_w0_0 C_w0_1
  clear C_x0_0 C_x0_1
  clear C_g0_0 C_g0_1
  have s15 := hb.size
  replace Q_w0 := Q_w0.new hb
  replace Q_x0 := Q_x0.new hb
  replace Q_x1 := Q_x1.new hb
  replace Q_g0 := Q_g0.new hb
  replace X_aG := X_aG.new hb
  replace X_w0 := X_w0.new hb
  replace X_x0 := X_x0.new hb
  replace X_g0 := X_g0.new hb
  have B15 := B14.trans (hb.mono B14.size)
  obtain ⟨C_aG_0, C_aG_1⟩ := X_aG.two
  obtain ⟨C_w0_0, C_w0_1⟩ := X_w0.two
  obtain ⟨C_x0_0, C_x0_1⟩ := X_x0.two
  obtain ⟨C_g0_0, C_g0_1⟩ := X_g0.two
  clear hb
  go_wp2_with fail
  refine (markGraph_any (n := X0.length) (q := 1) (Lib.hid rfl) (by omega) (Lib.hid (fun x hx => Nat.le_trans (hs0.out x hx) (by omega))) (by omega) (by omega) (by omega) Q_x0).mono ?_
  rintro e w16 ⟨rfl, hr, ho⟩
  clear C_aG_0 C_aG_1
  clear C_w0_0 C_w0_1
  clear C_x0_0 C_x0_1
  clear C_g0_0 C_g0_1
  have s16 := ho.size
  replace Q_w0 := Q_w0.out ho (by omega)
  replace Q_x1 := Q_x1.out ho (by omega)
  replace Q_g0 := Q_g0.out ho (by omega)
  replace X_aG := X_aG.out ho (by omega)
  replace X_w0 := X_w0.out ho (by omega)
  replace X_x0 := X_x0.out ho (by omega)
  replace X_g0 := X_g0.out ho (by omega)
  have B16 := B15.trans (ho.below (by omega) (by omega))
  obtain ⟨C_aG_0, C_aG_1⟩ := X_aG.two
  obtain ⟨C_w0_0, C_w0_1⟩ := X_w0.two
  obtain ⟨C_x0_0, C_x0_1⟩ := X_x0.two
  obtain ⟨C_g0_0, C_g0_1⟩ := X_g0.two
  replace Q_x0 := hr
  clear hr ho
  go_wp2_with fail
  refine (markIntS_any (q := 1 + (psum X0 X0.length : Int)) (Lib.hid (ivs_len z1)) (by omega) (by omega) (by omega) Q_x1).mono ?_
  rintro e w17 ⟨rfl, hr, ho⟩
  clear C_aG_0 C_aG_1
  clear C_w0_0 C_w0_1
  clear C_x0_0 C_x0_1
  clear C_g0_0 C_g0_1
  have s17 := ho.size
  replace Q_w0 := Q_w0.out ho (by omega)
  replace Q_x0 := Q_x0.out ho (by omega)
  replace Q_g0 := Q_g0.out ho (by omega)
  replace X_aG := X_aG.out ho (by omega)
  replace X_w0 := X_w0.out ho (by omega)
  replace X_x0 := X_x0.out ho (by omega)
  replace X_g0 := X_g0.out ho (by omega)
  have B17 := B16.trans (ho.below (by omega) (by omega))
  obtain ⟨C_aG_0, C_aG_1⟩ := X_aG.two
  obtain ⟨C_w0_0, C_w0_1⟩ := X_w0.two
  obtain ⟨C_x0_0, C_x0_1⟩ := X_x0.two
  obtain ⟨C_g0_0, C_g0_1⟩ := X_g0.two
  replace Q_x1 := hr
  clear hr ho
  go_wp2_with fail
  refine (eqGraph_same (X := r0) (Lib.hid rfl) (by omega) hrs0 (Q_g0.rd'.more (by omega)) (Q_w0.rd'.more (by omega))).mono ?_
  rintro e w18 ⟨he, hb⟩
  subst he
  clear C_aG_0 C_aG_1
  clear C_w0_0 C_w0_1
  clear C_x0_0 C_x0_1
  clear C_g0_0 C_g0_1
  have s18 := hb.size
  replace Q_w0 := Q_w0.new hb
  replace Q_x0 := Q_x0.new hb
  replace Q_x1 := Q_x1.new hb
  replace Q_g0 := Q_g0.new hb
  replace X_aG := X_aG.new hb
  replace X_w0 := X_w0.new hb
  replace X_x0 := X_x0.new hb
  replace X_g0 := X_g0.new hb
  have B18 := B17.trans (hb.mono B17.size)
  obtain ⟨C_aG_0, C_aG_1⟩ := X_aG.two
  obtain ⟨C_w0_0, C_w0_1⟩ := X_w0.two
  obtain ⟨C_x0_0, C_x0_1⟩ := X_x0.two
  obtain ⟨C_g0_0, C_g0_1⟩ := X_g0.two
  clear hb
  go_wp2_with fail
  refine (markGraph_any (n := r0.length) (q := 1) (Lib.hid rfl) (by omega) hrs0 (by omega) (by omega) (by omega) Q_g0).mono ?_
  rintro e w19 ⟨rfl, hr, ho⟩
  clear C_aG_0 C_aG_1
  clear C_w0_0 C_w0_1
  clear C_x0_0 C_x0_1
  clear C_g0_0 C_g0_1
  have s19 := ho.size
  replace Q_w0 := Q_w0.out ho (by omega)
  replace Q_x0 := Q_x0.out ho (by omega)
  replace Q_x1 := Q_x1.out ho (by omega)
  replace X_aG := X_aG.out ho (by omega)
  replace X_w0 := X_w0.out ho (by omega)
  replace X_x0 := X_x0.out ho (by omega)
  replace X_g0 := X_g0.out ho (by omega)
  have B19 := B18.trans (ho.below (by omega) (by omega))
  obtain ⟨C_aG_0, C_aG_1⟩ := X_aG.two
  obtain ⟨C_w0_0, C_w0_1⟩ := X_w0.two
  obtain ⟨C_x0_0, C_x0_1⟩ := X_x0.two
  obtain ⟨C_g0_0, C_g0_1⟩ := X_g0.two
  replace Q_g0 := hr
  clear hr ho
  go_wp2_with fail
  refine (heldGraph_any (n := r0.length) (q := 1) (Lib.hid rfl) (by omega) hrs0 (by omega) (by omega) (by omega) (Q_g0.rd'.more (by omega))).mono ?_
  rintro e w20 ⟨rfl, hb⟩
  clear C_aG_0 C_aG_1
  clear C_w0_0 C_w0_1
  clear C_x0_0 C_x0_1
  clear C_g0_0 C_g0_1
  have s20 := hb.size
  replace Q_w0 := Q_w0.new hb
  replace Q_x0 := Q_x0.new hb
  replace Q_x1 := Q_x1.new hb
  replace Q_g0 := Q_g0.new hb
  replace X_aG := X_aG.new hb
  replace X_w0 := X_w0.new hb
  replace X_x0 := X_x0.new hb
  replace X_g0 := X_g0.new hb
  have B20 := B19.trans (hb.mono B19.size)
  obtain ⟨C_aG_0, C_aG_1⟩ := X_aG.two
  obtain ⟨C_w0_0, C_w0_1⟩ := X_w0.two
  obtain ⟨C_x0_0, C_x0_1⟩ := X_x0.two
  obtain ⟨C_g0_0, C_g0_1⟩ := X_g0.two
  clear hb
  go_wp2_with fail
  refine (toGraph_any (X := X0) (Lib.hid rfl) (by omega) (Lib.hid (fun x hx => Nat.le_trans (hs0.out x hx) (by omega))) ((R0.below B20).more (by omega))).mono ?_
  rintro e w21 ⟨v, rfl, hr, hb⟩
  obtain ⟨E13, k13, rfl, _, hk13, hm13⟩ := hr.rd (n := X0.length) rfl
  clear C_aG_0 C_aG_1
  clear C_w0_0 C_w0_1
  clear C_x0_0 C_x0_1
  clear C_g0_0 C_g0_1
  have s21 := hb.size
  replace Q_w0 := Q_w0.new hb
  replace Q_x0 := Q_x0.new hb
  replace Q_x1 := Q_x1.new hb
  replace Q_g0 := Q_g0.new hb
  replace X_aG := X_aG.new hb
  replace X_w0 := X_w0.new hb
  replace X_x0 := X_x0.new hb
  replace X_g0 := X_g0.new hb
  have B21 := B20.trans (hb.mono B20.size)
  obtain ⟨C_aG_0, C_aG_1⟩ := X_aG.two
  obtain ⟨C_w0_0, C_w0_1⟩ := X_w0.two
  obtain ⟨C_x0_0, C_x0_1⟩ := X_x0.two
  obtain ⟨C_g0_0, C_g0_1⟩ := X_g0.two
  have Q_t12 := hr
  clear hr hb
  go_wp2_with fail
  refine (toIntS_any (zs := z1) (Lib.hid rfl) (by omega) ((R1.below B21).more (by omega))).mono ?_
  rintro e w22 ⟨v, rfl, hr, hb⟩
  obtain ⟨E15, k15, rfl, _, hk15, hm15⟩ := hr.rd (ivs_len z1)
  clear C_aG_0 C_aG_1
  clear C_w0_0 C_w0_1
  clear C_x0_0 C_x0_1
  clear C_g0_0 C_g0_1
  have s22 := hb.size
  replace Q_w0 := Q_w0.new hb
  replace Q_x0 := Q_x0.new hb
  replace Q_x1 := Q_x1.new hb
  replace Q_g0 := Q_g0.new hb
  replace Q_t12 := Q_t12.new hb
  replace X_aG := X_aG.new hb
  replace X_w0 := X_w0.new hb
  replace X_x0 := X_x0.new hb
  replace X_g0 := X_g0.new hb
  have B22 := B21.trans (hb.mono B21.size)
  obtain ⟨C_aG_0, C_aG_1⟩ := X_aG.two
  obtain ⟨C_w0_0, C_w0_1⟩ := X_w0.two
  obtain ⟨C_x0_0, C_x0_1⟩ := X_x0.two
  obtain ⟨C_g0_0, C_g0_1⟩ := X_g0.two
  have Q_t14 := hr
  clear hr hb
  go_wp2_with fail
  refine ((HI.out w22 _ _ _ _ (by omega) hs0 (by omega) (by omega) (by assumption) (Q_t12.rd'.more (by omega)) (by omega) (by omega) (by assumption) (Q_t14.rd'.more (by omega)))).mono ?_
  rintro e w23 ⟨v, rfl, hr, hb⟩
  obtain ⟨E16, k16, rfl, _, hk16, hm16⟩ := hr.rd (n := r0.length) rfl
  clear Q_t12
  clear Q_t14
  clear C_aG_0 C_aG_1
  clear C_w0_0 C_w0_1
  clear C_x0_0 C_x0_1
  clear C_g0_0 C_g0_1
  have s23 := hb.size
  replace Q_w0 := Q_w0.new hb
  replace Q_x0 := Q_x0.new hb
  replace Q_x1 := Q_x1.new hb
  replace Q_g0 := Q_g0.new hb
  replace X_aG := X_aG.new hb
  replace X_w0 := X_w0.new hb
  replace X_x0 := X_x0.new hb
  replace X_g0 := X_g0.new hb
  have B23 := B22.trans (hb.mono B22.size)
  obtain ⟨C_aG_0, C_aG_1⟩ := X_aG.two
  obtain ⟨C_w0_0, C_w0_1⟩ := X_w0.two
  obtain ⟨C_x0_0, C_x0_1⟩ := X_x0.two
  obtain ⟨C_g0_0, C_g0_1⟩ := X_g0.two
  have Q_h0 := hr
  clear hr
  clear hb
  obtain ⟨D_aG_0, D_aG_1⟩ := (X_aG.new ((Below.refl _ _).alloc (Nat.le_refl _) (Obj.cells #[.int .i64 M0, .slice E16 r0.length k16] 26))).two
  obtain ⟨D_w0_0, D_w0_1⟩ := (X_w0.new ((Below.refl _ _).alloc (Nat.le_refl _) (Obj.cells #[.int .i64 M0, .slice E16 r0.length k16] 26))).two
  obtain ⟨D_x0_0, D_x0_1⟩ := (X_x0.new ((Below.refl _ _).alloc (Nat.le_refl _) (Obj.cells #[.int .i64 M0, .slice E16 r0.length k16] 26))).two
  obtain ⟨D_g0_0, D_g0_1⟩ := (X_g0.new ((Below.refl _ _).alloc (Nat.le_refl _) (Obj.cells #[.int .i64 M0, .slice E16 r0.length k16] 26))).two
  go_wp2_with fail
  clear D_aG_0 D_aG_1 D_w0_0 D_w0_1 D_x0_0 D_x0_1 D_g0_0 D_g0_1
  obtain ⟨w24, hw⟩ : ∃ u : World, u = w23.alloc (Obj.cells #[.int .i64 M0, .slice E16 r0.length k16] 26) := ⟨_, rfl⟩
  rw [← hw]
  have hb : Below w23.heap.size w23 w24 := by rw [hw]; exact (Below.refl _ _).alloc (Nat.le_refl _) _
  have hbx : Bx w24 w23.heap.size 26 #[.int .i64 M0, .slice E16 r0.length k16] := by rw [hw]; exact Bx.made _ _ _
  clear hw
  clear C_aG_0 C_aG_1
  clear C_w0_0 C_w0_1
  clear C_x0_0 C_x0_1
  clear C_g0_0 C_g0_1
  have s24 := hb.size
  replace Q_w0 := Q_w0.new hb
  replace Q_x0 := Q_x0.new hb
  replace Q_x1 := Q_x1.new hb
  replace Q_g0 := Q_g0.new hb
  replace Q_h0 := Q_h0.new hb
  replace X_aG := X_aG.new hb
  replace X_w0 := X_w0.new hb
  replace X_x0 := X_x0.new hb
  replace X_g0 := X_g0.new hb
  have B24 := B23.trans (hb.mono B23.size)
  obtain ⟨C_aG_0, C_aG_1⟩ := X_aG.two
  obtain ⟨C_w0_0, C_w0_1⟩ := X_w0.two
  obtain ⟨C_x0_0, C_x0_1⟩ := X_x0.two
  obtain ⟨C_g0_0, C_g0_1⟩ := X_g0.two
  have X_h0 := hbx
  obtain ⟨C_h0_0, C_h0_1⟩ := X_h0.two
  have l24 := hbx.lt
  clear hb hbx
  try (go_wp2_with fail)
  refine (eqGraph_same (X := r0) (Lib.hid rfl) (by omega) hrs0 (Q_h0.rd'.more (by omega)) (Q_w0.rd'.more (by omega))).mono ?_
  rintro e w25 ⟨he, hb⟩
  subst he
  clear C_aG_0 C_aG_1
  clear C_w0_0 C_w0_1
  clear C_x0_0 C_x0_1
  clear C_g0_0 C_g0_1
  clear C_h0_0 C_h0_1
  have s25 := hb.size
  replace Q_w0 := Q_w0.new hb
  replace Q_x0 := Q_x0.new hb
  replace Q_x1 := Q_x1.new hb
  replace Q_g0 := Q_g0.new hb
  replace Q_h0 := Q_h0.new hb
  replace X_aG := X_aG.new hb
  replace X_w0 := X_w0.new hb
  replace X_x0 := X_x0.new hb
  replace X_g0 := X_g0.new hb
  replace X_h0 := X_h0.new hb
  have B25 := B24.trans (hb.mono B24.size)
  obtain ⟨C_aG_0, C_aG_1⟩ := X_aG.two
  obtain ⟨C_w0_0, C_w0_1⟩ := X_w0.two
  obtain ⟨C_x0_0, C_x0_1⟩ := X_x0.two
  obtain ⟨C_g0_0, C_g0_1⟩ := X_g0.two
  obtain ⟨C_h0_0, C_h0_1⟩ := X_h0.two
  clear hb
  go_wp2_with fail
  refine (heldGraph_any (n := r0.length) (q := 1) (Lib.hid rfl) (by omega) hrs0 (by omega) (by omega) (by omega) (Q_g0.rd'.more (by omega))).mono ?_
  rintro e w26 ⟨rfl, hb⟩
  clear C_aG_0 C_aG_1
  clear C_w0_0 C_w0_1
  clear C_x0_0 C_x0_1
  clear C_g0_0 C_g0_1
  clear C_h0_0 C_h0_1
  have s26 := hb.size
  replace Q_w0 := Q_w0.new hb
  replace Q_x0 := Q_x0.new hb
  replace Q_x1 := Q_x1.new hb
  replace Q_g0 := Q_g0.new hb
  replace Q_h0 := Q_h0.new hb
  replace X_aG := X_aG.new hb
  replace X_w0 := X_w0.new hb
  replace X_x0 := X_x0.new hb
  replace X_g0 := X_g0.new hb
  replace X_h0 := X_h0.new hb
  have B26 := B25.trans (hb.mono B25.size)
  obtain ⟨C_aG_0, C_aG_1⟩ := X_aG.two
  obtain ⟨C_w0_0, C_w0_1⟩ := X_w0.two
  obtain ⟨C_x0_0, C_x0_1⟩ := X_x0.two
  obtain ⟨C_g0_0, C_g0_1⟩ := X_g0.two
  obtain ⟨C_h0_0, C_h0_1⟩ := X_h0.two
  clear hb
  go_wp2_with fail
  go_ret
  exact ⟨rfl, B26⟩
theorem contract (H : Type) (enc : TypeId × Value → H) (W : World) (base : Nat) (args : Array Value) (ds gs : List (DataW H)) (before : List MemPlace)
    (hval : ∀ (j : Nat) t v, Try.f6.params[j]? = some t → args[j]? = some v → Value.okWide Try.prog W .any base t v)
    (hW : DataW.Whole enc Try.prog Try.f6.params.toList Rows.fnExactRenamedSpec.vars false W args.toList ds gs before) (hL : laidMetH Try.prog Rows.fnExactRenamedRow.laid W)
    (hreach : (DataW.weightsEach Try.prog (Try.f6.params.toList ++ (OpenSpec.ofChange Rows.fnExactRenamedSpec).bare.plain.varTypes Try.prog) (ds ++ gs)).all (· ≤ reachBytes) = true) :
    Calls Try.prog 6 args W fun e W' => ∃ v, e = .returned v ∧ Rows.fnExactRenamedSpec.post enc Try.prog Try.f6 false true false false W args v W' := by
  have hW' := hW
  obtain ⟨p, q, hA0, hV, rfl, hfz, hnd⟩ := hW
  have hA : DataW.TrodAll enc Try.prog W 0 (fun _ => true) true Try.f6.params.toList args.toList ds p := hA0
  rw [Try.params6] at hA hval
  obtain ⟨v0, vs0, d0, ds0, p0, q0, hargs, rfl, rfl, h0, r0⟩ := trodAll_cons hA
  obtain ⟨v1, vs1, d1, ds1, p1, q1, rfl, rfl, rfl, h1, r1⟩ := trodAll_cons r0
  obtain ⟨rfl, rfl, rfl⟩ := trodAll_nil r1
  obtain rfl : args = #[v0, v1] := by cases args; simp_all
  obtain ⟨rfl, rfl⟩ := trodVars_none hV
  obtain ⟨N0, A0, c0, X0, rfl, R0, hc0, hm0, hN0, hb0⟩ := graph_open (hval 0 24 v0 rfl rfl) h0
  obtain ⟨A1, c1, z1, rfl, R1, hc1, hm1, hb1⟩ := slice_open Try.underlying40 Try.underlying3 (by kernel_rfl : Try.prog.cellsOf 3 = 1) (hval 1 40 v1 rfl rfl) h1
  clear hA0 hval
  have walked : Calls Try.prog 6 #[.agg #[.int .i64 N0, .slice A0 X0.length c0], .slice A1 z1.length c1] W fun e W' => e = .returned (.bool true) ∧ Below W.heap.size W W' := by
    by_cases hok : X0.length ≤ 1048576 ∧ psum X0 X0.length ≤ 1048576
    · obtain ⟨k1, k2, k3⟩ := reY_sizes (N := N0) (T := z1) hok.1 hok.2
      exact core (M0 := N0) (r0 := reY N0 X0 z1) (x1 := renB N0 X0 z1) R0 hc0 hm0 R1 hc1 k1 (Lib.hid k2) k3 (fun w B d B' d' hz hs hp hd hm hr hz' hd' hm' hr' => specRenamed_any (Lib.hid rfl) (by omega) (Lib.hid (fun x hx => Nat.le_trans (hs.out x hx) (by omega))) hr (Lib.hid rfl) (by omega) hr' hd') (fun w B d B' d' hz hs hp hd hm hr hz' hd' hm' hr' => impRenamed_any (Lib.hid rfl) (by omega) (Lib.hid (fun x hx => Nat.le_trans (hs.out x hx) (by omega))) hr (Lib.hid rfl) (by omega) hr')
    · exact core (M0 := 0) (r0 := []) (x1 := false) R0 hc0 hm0 R1 hc1 (by simp) (Lib.hid (by simp)) (by simp [psum]) (fun w B d B' d' hz hs hp hd hm hr hz' hd' hm' hr' => absurd ⟨hz, hp⟩ hok) (fun w B d B' d' hz hs hp hd hm hr hz' hd' hm' hr' => absurd ⟨hz, hp⟩ hok)
  refine walked.mono fun e W' ⟨he, hb⟩ => ?_
  exact ⟨_, he, post_true (tb := 4) hW' rfl Try.underlying4 rfl rfl (by kernel_rfl) (by kernel_rfl) hb⟩
noncomputable def laidWorld (os : Os) : World := World.holding Try.prog os ⟨#[], #[], []⟩
theorem laid_met (os : Os) : laidMet Try.prog Rows.fnExactRenamedRow.laid ((laidWorld os).forCall (fun _ _ => 0) ⟨#[], #[Value.agg #[.int .i64 0, .slice none 0 0], Value.slice none 0 0], []⟩).memory :=
  laidMet_of_run' 8 (by kernel_rfl) (by kernel_rfl)
theorem reads (os : Os) {H : Type} (enc : TypeId × Value → H) : ∃ places, DataW.whole enc Try.prog ((laidWorld os).forCall (fun _ _ => 0) ⟨#[], #[Value.agg #[.int .i64 0, .slice none 0 0], Value.slice none 0 0], []⟩).memory Try.f6.params.toList Rows.fnExactRenamedSpec.vars false (#[Value.agg #[.int .i64 0, .slice none 0 0], Value.slice none 0 0]).toList 8 = some ([.agg [.lit (.int .i64 0), .nil], .nil], [], places) :=
  ⟨[], by kernel_rfl⟩
set_option maxRecDepth 100000 in
theorem lifted (os : Os) (started : os.Started) (H : Type) (enc : TypeId × Value → H) (F : Stop.Interp) :
    ReturnsInHanded {} Try.checked os 6 .any ((OpenSpec.ofChange Rows.fnExactRenamedSpec).preRow enc Try.prog Try.f6 Rows.fnExactRenamedRow.domain false Rows.fnExactRenamedRow.laid) (((OpenSpec.ofChange Rows.fnExactRenamedSpec).at F).post enc Try.prog Try.f6 false true false false) := by
  obtain ⟨places, hx⟩ := reads os enc
  refine returnsInHanded_of_row (C := Try.checked) (s := (OpenSpec.ofChange Rows.fnExactRenamedSpec)) own started (by kernel_rfl) Try.func6
    (witness_row_at (enc := enc) (C := Try.checked) false (laidWorld os) #[Value.agg #[.int .i64 0, .slice none 0 0], Value.slice none 0 0] rfl (by kernel_rfl) (by kernel_rfl) (by kernel_rfl)
      (OpenSpec.preRow_of_cond 8 hx (by kernel_rfl) (fun k hk => by cases hk) (by kernel_rfl) (laid_met os))) ?_
  intro W base args ds gs before hval hW _ hcond hreach hL _ _
  exact contract H enc W base args ds gs before hval hW hL hreach
theorem said : Rows.FnExactRenamedSaid :=
  OpenClaim.holds_of_cond 6 Try.f6 rfl rfl rfl rfl rfl rfl rfl ⟨rfl, rfl, rfl, rfl, rfl⟩ rfl rfl rfl rfl rfl (by kernel_rfl) Try.func6 (by kernel_rfl)
    (of_decide_eq_true (by kernel_rfl)) (by unfold Func.isWrapper; first | (rw [if_pos (by decide +kernel)]; kernel_rfl) | (rw [if_neg (by decide +kernel)]; exact ⟨rfl, rfl⟩))
    (fun os started H enc _ F => by rw [OpenClaim.pre_eq_preRow]; exact lifted os started H enc F)
#print axioms said
end Go.Proofs.Ytncndlojceiejaa.fnExactRenamed
