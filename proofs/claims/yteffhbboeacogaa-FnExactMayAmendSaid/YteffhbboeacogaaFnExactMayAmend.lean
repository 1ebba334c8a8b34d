/- Proves the given statement of the law 'FnExactMayAmend': at every input that the statement admits, the law returns true and leaves its arguments as they were. Conditions: those of the given row, no other. -/
import Derived.Test.YteffhbboeacogaaRows
import Derived.LaidHandle
import Derived.LaidLaws
import Derived.Stop.Joined
import Derived.Stop.LaidErr
import Derived.ChangeMaps5
import Derived.WalkKit
import Derived.ProofKit
import Derived.OpenShut
import Derived.Deep.DeepHandedRow
import Derived.Lib.LaidTab
import Derived.Deep.RegionHeld3
import Derived.Test.YteffhbboeacogaaBase
import Derived.Test.YteffhbboeacogaaMayA
import Derived.Test.YteffhbboeacogaaAmendC
import Derived.Test.YteffhbboeacogaaAmendO
import Derived.Test.YteffhbboeacogaaIntSS
import Derived.Test.YteffhbboeacogaaOpen
import Derived.Test.YteffhbboeacogaaGraph
namespace Go.Proofs.Yteffhbboeacogaa.fnExactMayAmend
open Go.ChangeShapes Go.WideShapes Go.ChangeAt Go.RowKit
set_option linter.unusedVariables false
set_option maxRecDepth 100000
theorem own : ownKnob Try.prog.godebug = none := by kernel_rfl
theorem ucells : Try.prog.cellsOf 5 = 1 := by kernel_rfl
set_option maxHeartbeats 4000000 in
set_option maxRecDepth 100000 in
theorem core {W : World} {A0 : Option Addr} {c0 : Nat} {z0 : List Int} (R0 : Rd W W.heap.size A0 (ivs z0)) (hc0 : z0.length ≤ c0) {A1 : Option Addr} {c1 : Nat} {x1 : Am} (R1 : Rd W W.heap.size A1 (ivs x1.put)) (hc1 : x1.put.length ≤ c1) (hm1 : c1 ≤ maxLen) {x0 : Bool}
    (hS : ∀ (w : World) (B0 : Option Addr) (d0 : Nat) (B1 : Option Addr) (d1 : Nat), z0.length ≤ 1048576 → z0.length ≤ d0 → d0 ≤ maxLen → Rd w w.heap.size B0 (ivs z0) → x1.put.length ≤ 1048576 → Rd w w.heap.size B1 (ivs x1.put) → Calls Try.prog 42 #[.slice B0 z0.length d0, .agg #[.int .i64 x1.loc, .int .i64 x1.drp, .slice B1 x1.put.length d1]] w (fun e w' => e = .returned (.bool x0) ∧ Below w.heap.size w w'))
    (hI : ∀ (w : World) (B0 : Option Addr) (d0 : Nat) (B1 : Option Addr) (d1 : Nat), z0.length ≤ 1048576 → z0.length ≤ d0 → d0 ≤ maxLen → Rd w w.heap.size B0 (ivs z0) → x1.put.length ≤ 1048576 → Rd w w.heap.size B1 (ivs x1.put) → Calls Try.prog 19 #[.slice B0 z0.length d0, .agg #[.int .i64 x1.loc, .int .i64 x1.drp, .slice B1 x1.put.length d1]] w (fun e w' => e = .returned (.bool x0) ∧ Below w.heap.size w w')) :
    Calls Try.prog 9 #[.slice A0 z0.length c0, .agg #[.int .i64 x1.loc, .int .i64 x1.drp, .slice A1 x1.put.length c1]] W (fun e W' => e = .returned (.bool true) ∧ Below W.heap.size W W') := by
  have HS := Lib.hid hS
  have HI := Lib.hid hI
  clear hS hI
  have early : Below W.heap.size W (W.alloc (Obj.cells #[.int .i64 x1.loc, .int .i64 x1.drp, .slice A1 x1.put.length c1] 54)) := ((Below.refl _ _).alloc (by simp; try omega) _)
  by_cases hz0 : 1048576 < z0.length
  · go_enter Try.func9, Try.ntmps9
    go_wp2_with fail
    go_ret
    exact ⟨rfl, early⟩
  have hy0 : z0.length ≤ 1048576 := by omega
  clear hz0
  clear early
  have B0 : Below W.heap.size W W := Below.refl _ _
  go_enter Try.func9, Try.ntmps9
  go_wp2_with fail
  obtain ⟨w1, hw⟩ : ∃ u : World, u = W.alloc (Obj.cells #[.int .i64 x1.loc, .int .i64 x1.drp, .slice A1 x1.put.length c1] 54) := ⟨_, rfl⟩
  rw [← hw]
  have hb : Below W.heap.size W w1 := by rw [hw]; exact (Below.refl _ _).alloc (Nat.le_refl _) _
  have hbx : Bx w1 W.heap.size 54 #[.int .i64 x1.loc, .int .i64 x1.drp, .slice A1 x1.put.length c1] := by rw [hw]; exact Bx.made _ _ _
  have z1 : w1.heap.size = W.heap.size + 1 := by rw [hw]; simp
  clear hw
  have s1 := hb.size
  have B1 := B0.trans (hb.mono B0.size)
  have X_aA := hbx
  obtain ⟨C_aA_0, C_aA_1, C_aA_2⟩ := X_aA.k3
  have l1 := hbx.lt
  clear hb hbx
  try (go_wp2_with fail)
  go_wp2_with fail
  refine (szAmend_any (q := 1048576) (by unfold maxLen at hm1; omega) (by omega) (by omega)).mono ?_
  rintro e w2 ⟨rfl, hb⟩
  clear C_aA_0 C_aA_1 C_aA_2
  have s2 := hb.size
  replace X_aA := X_aA.new hb
  have B2 := B1.trans (hb.mono B1.size)
  obtain ⟨C_aA_0, C_aA_1, C_aA_2⟩ := X_aA.k3
  clear hb
  by_cases hz1 : 1048576 < (x1.put.length : Int)
  · rw [show szd 1048576 x1.put.length = -1 by unfold szd; rw [if_pos (by omega)]]
    go_wp2_with fail
    go_ret
    exact ⟨rfl, B2⟩
  have hy1 : x1.put.length ≤ 1048576 := by omega
  rw [show szd 1048576 x1.put.length = 1048576 - (x1.put.length : Int) by unfold szd; rw [if_neg (by omega)]]
  obtain ⟨r_1, hrr⟩ : ∃ r : Int, r = 1048576 - (x1.put.length : Int) := ⟨_, rfl⟩
  rw [← hrr]
  have hq_1 : 0 ≤ r_1 ∧ r_1 ≤ 1048576 := by omega
  clear hrr hz1
  go_wp2_with fail
  have KE := fun (u : World) (q : Below w2.heap.size w2 u) => show Below w2.heap.size w2 u ∧ u.cell? ⟨W.heap.size, 0, none⟩ = some (.int .i64 x1.loc) ∧ u.cell? ⟨W.heap.size, 1, none⟩ = some (.int .i64 x1.drp) ∧ u.cell? ⟨W.heap.size, 2, none⟩ = some (.slice A1 x1.put.length c1) from ⟨q, ((X_aA.new q).k3).1, ((X_aA.new q).k3).2.1, ((X_aA.new q).k3).2.2⟩
  have kZ := Below.refl w2.heap.size w2
  have KEH := Lib.hid KE
  clear KE
  clear C_aA_0 C_aA_1 C_aA_2
  go_region_held3 (fun u => Below w2.heap.size w2 u ∧ u.cell? ⟨W.heap.size, 0, none⟩ = some (.int .i64 x1.loc) ∧ u.cell? ⟨W.heap.size, 1, none⟩ = some (.int .i64 x1.drp) ∧ u.cell? ⟨W.heap.size, 2, none⟩ = some (.slice A1 x1.put.length c1)) (first | assumption | with_reducible exact KEH.out _ kZ | with_reducible exact KEH.out _ (Below.drew kZ) | with_reducible exact KEH.out _ k9 | with_reducible exact KEH.out _ (Below.drew k9))
    (first
    | (go_at_call 28; (with_reducible refine (toIntS_any (zs := z0) (Lib.hid rfl) (by omega) ((R0.below (B2.trans ((‹Below w2.heap.size w2 _ ∧ _›).1.mono B2.size))).more (B2.trans ((‹Below w2.heap.size w2 _ ∧ _›).1.mono B2.size)).size)).mono ?_); rintro e w3 ⟨v1, rfl, H1, hb9⟩; obtain ⟨E1, k1, rfl, _, hk1, hm1⟩ := H1.rd (ivs_len z0); have k9 := trans_new (‹Below w2.heap.size w2 _ ∧ _›).1 hb9; have t3 := hb9.size)
    | (go_at_call 43; (with_reducible refine (toAmend_any (x := x1) (by omega) ((R1.below (B2.trans ((‹Below w2.heap.size w2 _ ∧ _›).1.mono B2.size))).more (B2.trans ((‹Below w2.heap.size w2 _ ∧ _›).1.mono B2.size)).size)).mono ?_); rintro e w4 ⟨E2, k2, rfl, H2, hb9⟩; replace H1 := H1.new hb9; have k9 := trans_new (‹Below w2.heap.size w2 _ ∧ _›).1 hb9; have t4 := hb9.size)
    | (go_at_call 42; (with_reducible refine (HS.out _ _ _ _ _ (by omega) (by omega) (by assumption) (H1.rd'.more (by omega)) (by omega) (H2.rd'.more (by omega))).mono ?_); rintro e w5 ⟨rfl, hb8⟩; have tz := k9.size; have k9 := trans_new (‹Below w2.heap.size w2 _ ∧ _›).1 hb8; have t5 := hb8.size))
  have hb := k9
  clear k9 kZ H1 H2
  have B3 := B2
  have B4 := B2
  have s5 := hb.size
  replace X_aA := X_aA.new hb
  have B5 := B4.trans (hb.mono B4.size)
  obtain ⟨C_aA_0, C_aA_1, C_aA_2⟩ := X_aA.k3
  clear hb
  go_wp2_with fail
  refine (toIntS_any (zs := z0) (Lib.hid rfl) (by omega) ((R0.below B5).more (by omega))).mono ?_
  rintro e w6 ⟨v, rfl, hr, hb⟩
  obtain ⟨E3, k3, rfl, _, hk3, hm3⟩ := hr.rd (ivs_len z0)
  clear C_aA_0 C_aA_1 C_aA_2
  have s6 := hb.size
  replace X_aA := X_aA.new hb
  have B6 := B5.trans (hb.mono B5.size)
  obtain ⟨C_aA_0, C_aA_1, C_aA_2⟩ := X_aA.k3
  have Q_x0 := hr
  clear hr hb
  go_wp2_with fail
  refine (toAmend_any (x := x1) (by omega) ((R1.below B6).more (by omega))).mono ?_
  rintro e w7 ⟨E4, k4, rfl, hr, hb⟩
  have hk4 := hr.1.1
  clear C_aA_0 C_aA_1 C_aA_2
  have s7 := hb.size
  replace Q_x0 := Q_x0.new hb
  replace X_aA := X_aA.new hb
  have B7 := B6.trans (hb.mono B6.size)
  obtain ⟨C_aA_0, C_aA_1, C_aA_2⟩ := X_aA.k3
  have Q_x1 := hr
  clear hr hb hk4
  obtain ⟨D_aA_0, D_aA_1, D_aA_2⟩ := (X_aA.new ((Below.refl _ _).alloc (Nat.le_refl _) (Obj.cells #[.int .i64 x1.loc, .int .i64 x1.drp, .slice E4 x1.put.length k4] 26))).k3
  go_wp2_with fail
  clear D_aA_0 D_aA_1 D_aA_2
  obtain ⟨w8, hw⟩ : ∃ u : World, u = w7.alloc (Obj.cells #[.int .i64 x1.loc, .int .i64 x1.drp, .slice E4 x1.put.length k4] 26) := ⟨_, rfl⟩
  rw [← hw]
  have hb : Below w7.heap.size w7 w8 := by rw [hw]; exact (Below.refl _ _).alloc (Nat.le_refl _) _
  have hbx : Bx w8 w7.heap.size 26 #[.int .i64 x1.loc, .int .i64 x1.drp, .slice E4 x1.put.length k4] := by rw [hw]; exact Bx.made _ _ _
  clear hw
  clear C_aA_0 C_aA_1 C_aA_2
  have s8 := hb.size
  replace Q_x0 := Q_x0.new hb
  replace Q_x1 := Q_x1.new hb
  replace X_aA := X_aA.new hb
  have B8 := B7.trans (hb.mono B7.size)
  obtain ⟨C_aA_0, C_aA_1, C_aA_2⟩ := X_aA.k3
  have X_x1 := hbx
  obtain ⟨C_x1_0, C_x1_1, C_x1_2⟩ := X_x1.k3
  have l8 := hbx.lt
  clear hb hbx
  try (go_wp2_with fail)
  refine ((HI.out w8 _ _ _ _ (by omega) (by omega) (by assumption) (Q_x0.rd'.more (by omega)) (by omega) (Q_x1.rd'.more (by omega)))).mono ?_
  rintro e w9 ⟨rfl, hb⟩
  clear C_aA_0 C_aA_1 C_aA_2
  clear C_x1_0 C_x1_1 C_x1_2
  have s9 := hb.size
  replace Q_x0 := Q_x0.new hb
  replace Q_x1 := Q_x1.new hb
  replace X_aA := X_aA.new hb
  replace X_x1 := X_x1.new hb
  have B9 := B8.trans (hb.mono B8.size)
  obtain ⟨C_aA_0, C_aA_1, C_aA_2⟩ := X_aA.k3
  obtain ⟨C_x1_0, C_x1_1, C_x1_2⟩ := X_x1.k3
  clear hb
  go_wp2_with fail
  refine (toIntS_any (zs := z0) (Lib.hid rfl) (by omega) ((R0.below B9).more (by omega))).mono ?_
  rintro e w10 ⟨v, rfl, hr, hb⟩
  obtain ⟨E6, k6, rfl, _, hk6, hm6⟩ := hr.rd (ivs_len z0)
  clear C_aA_0 C_aA_1 C_aA_2
  clear C_x1_0 C_x1_1 C_x1_2
  have s10 := hb.size
  replace Q_x0 := Q_x0.new hb
  replace Q_x1 := Q_x1.new hb
  replace X_aA := X_aA.new hb
  replace X_x1 := X_x1.new hb
  have B10 := B9.trans (hb.mono B9.size)
  obtain ⟨C_aA_0, C_aA_1, C_aA_2⟩ := X_aA.k3
  obtain ⟨C_x1_0, C_x1_1, C_x1_2⟩ := X_x1.k3
  have Q_t5 := hr
  clear hr hb
  go_wp2_with fail
  refine (eqIntS_any (zs := z0) (ys := z0) (Lib.hid rfl) (Lib.hid rfl) (by omega) (by omega) (Q_x0.rd'.more (by omega)) (Q_t5.rd'.more (by omega))).mono ?_
  rintro e w11 ⟨he, hb⟩
  rw [show decide (z0 = z0) = true from decide_eq_true rfl] at he
  subst he
  clear Q_t5
  clear C_aA_0 C_aA_1 C_aA_2
  clear C_x1_0 C_x1_1 C_x1_2
  have s11 := hb.size
  replace Q_x0 := Q_x0.new hb
  replace Q_x1 := Q_x1.new hb
  replace X_aA := X_aA.new hb
  replace X_x1 := X_x1.new hb
  have B11 := B10.trans (hb.mono B10.size)
  obtain ⟨C_aA_0, C_aA_1, C_aA_2⟩ := X_aA.k3
  obtain ⟨C_x1_0, C_x1_1, C_x1_2⟩ := X_x1.k3
  clear hb
  go_wp2_with fail
  have KE := fun (u : World) (q : Below w11.heap.size w11 u) => show Below w11.heap.size w11 u ∧ u.cell? ⟨W.heap.size, 0, none⟩ = some (.int .i64 x1.loc) ∧ u.cell? ⟨W.heap.size, 1, none⟩ = some (.int .i64 x1.drp) ∧ u.cell? ⟨W.heap.size, 2, none⟩ = some (.slice A1 x1.put.length c1) ∧ u.cell? ⟨w7.heap.size, 0, none⟩ = some (.int .i64 x1.loc) ∧ u.cell? ⟨w7.heap.size, 1, none⟩ = some (.int .i64 x1.drp) ∧ u.cell? ⟨w7.heap.size, 2, none⟩ = some (.slice E4 x1.put.length k4) from ⟨q, ((X_aA.new q).k3).1, ((X_aA.new q).k3).2.1, ((X_aA.new q).k3).2.2, ((X_x1.new q).k3).1, ((X_x1.new q).k3).2.1, ((X_x1.new q).k3).2.2⟩
  have kZ := Below.refl w11.heap.size w11
  have KEH := Lib.hid KE
  clear KE
  clear C_aA_0 C_aA_1 C_aA_2
  clear C_x1_0 C_x1_1 C_x1_2
  go_region_held3 (fun u => Below w11.heap.size w11 u ∧ u.cell? ⟨W.heap.size, 0, none⟩ = some (.int .i64 x1.loc) ∧ u.cell? ⟨W.heap.size, 1, none⟩ = some (.int .i64 x1.drp) ∧ u.cell? ⟨W.heap.size, 2, none⟩ = some (.slice A1 x1.put.length c1) ∧ u.cell? ⟨w7.heap.size, 0, none⟩ = some (.int .i64 x1.loc) ∧ u.cell? ⟨w7.heap.size, 1, none⟩ = some (.int .i64 x1.drp) ∧ u.cell? ⟨w7.heap.size, 2, none⟩ = some (.slice E4 x1.put.length k4)) (first | assumption | with_reducible exact KEH.out _ kZ | with_reducible exact KEH.out _ (Below.drew kZ) | with_reducible exact KEH.out _ k9 | with_reducible exact KEH.out _ (Below.drew k9))
    (first
    | (go_at_call 43; (with_reducible refine (toAmend_any (x := x1) (by omega) ((R1.below (B11.trans ((‹Below w11.heap.size w11 _ ∧ _›).1.mono B11.size))).more (B11.trans ((‹Below w11.heap.size w11 _ ∧ _›).1.mono B11.size)).size)).mono ?_); rintro e w12 ⟨E7, k7, rfl, hr, hb9⟩; have k9 := trans_new (‹Below w11.heap.size w11 _ ∧ _›).1 hb9; have QX := Q_x1.new k9; have sX := k9.size)
    | (go_at_call 44; (with_reducible refine (eqAmend_same (x := x1) (by omega) (QX.rd'.more (by omega)) (hr.rd'.more (by omega))).mono ?_); rintro e w13 ⟨he, hb8⟩; subst he; have k9 := trans_new (‹Below w11.heap.size w11 _ ∧ _›).1 hb8))
  have hb := k9
  clear k9 kZ
  have B12 := B11
  have s12 : True := trivial
  skip
  skip
  have s13 := hb.size
  replace Q_x0 := Q_x0.new hb
  replace Q_x1 := Q_x1.new hb
  replace X_aA := X_aA.new hb
  replace X_x1 := X_x1.new hb
  have B13 := B12.trans (hb.mono B12.size)
  obtain ⟨C_aA_0, C_aA_1, C_aA_2⟩ := X_aA.k3
  obtain ⟨C_x1_0, C_x1_1, C_x1_2⟩ := X_x1.k3
  clear hb
  go_wp2_with fail
  go_ret
  exact ⟨rfl, B13⟩
theorem contract (H : Type) (enc : TypeId × Value → H) (W : World) (base : Nat) (args : Array Value) (ds gs : List (DataW H)) (before : List MemPlace)
    (hval : ∀ (j : Nat) t v, Try.f9.params[j]? = some t → args[j]? = some v → Value.okWide Try.prog W .any base t v)
    (hW : DataW.Whole enc Try.prog Try.f9.params.toList Rows.fnExactMayAmendSpec.vars false W args.toList ds gs before) (hL : laidMetH Try.prog Rows.fnExactMayAmendRow.laid W)
    (hreach : (DataW.weightsEach Try.prog (Try.f9.params.toList ++ (OpenSpec.ofChange Rows.fnExactMayAmendSpec).bare.plain.varTypes Try.prog) (ds ++ gs)).all (· ≤ reachBytes) = true) :
    Calls Try.prog 9 args W fun e W' => ∃ v, e = .returned v ∧ Rows.fnExactMayAmendSpec.post enc Try.prog Try.f9 false true false false W args v W' := by
  have hW' := hW
  obtain ⟨p, q, hA0, hV, rfl, hfz, hnd⟩ := hW
  have hA : DataW.TrodAll enc Try.prog W 0 (fun _ => true) true Try.f9.params.toList args.toList ds p := hA0
  rw [Try.params9] at hA hval
  obtain ⟨v0, vs0, d0, ds0, p0, q0, hargs, rfl, rfl, h0, r0⟩ := trodAll_cons hA
  obtain ⟨v1, vs1, d1, ds1, p1, q1, rfl, rfl, rfl, h1, r1⟩ := trodAll_cons r0
  obtain ⟨rfl, rfl, rfl⟩ := trodAll_nil r1
  obtain rfl : args = #[v0, v1] := by cases args; simp_all
  obtain ⟨rfl, rfl⟩ := trodVars_none hV
  obtain ⟨A0, c0, z0, rfl, R0, hc0, hm0, hb0⟩ := slice_open Try.underlying24 Try.underlying3 (by kernel_rfl : Try.prog.cellsOf 3 = 1) (hval 0 24 v0 rfl rfl) h0
  obtain ⟨x1, A1, c1, rfl, hc1, hm1, R1, hb1⟩ := struct_openA Try.underlying54 (by kernel_rfl) (by kernel_rfl : Try.prog.cellsOf 54 = 3) Try.underlying3 Try.underlying3 Try.underlying24 Try.underlying3 (by kernel_rfl : Try.prog.cellsOf 3 = 1) (hval 1 54 v1 rfl rfl) h1
  clear hA0 hval
  have walked : Calls Try.prog 9 #[.slice A0 z0.length c0, .agg #[.int .i64 x1.loc, .int .i64 x1.drp, .slice A1 x1.put.length c1]] W fun e W' => e = .returned (.bool true) ∧ Below W.heap.size W W' := by
    exact core (x0 := mayA z0.length x1) R0 hc0 R1 hc1 hm1 (fun w B d B1 d1 hz hd hm hr hz1 hr1 => specMayAmend_any (by omega) (by omega)) (fun w B d B1 d1 hz hd hm hr hz1 hr1 => impMayAmend_any (by omega) (by omega))
  refine walked.mono fun e W' ⟨he, hb⟩ => ?_
  exact ⟨_, he, post_true (tb := 4) hW' rfl Try.underlying4 rfl rfl (by kernel_rfl) (by kernel_rfl) hb⟩
noncomputable def laidWorld (os : Os) : World := World.holding Try.prog os ⟨#[], #[], []⟩
theorem laid_met (os : Os) : laidMet Try.prog Rows.fnExactMayAmendRow.laid ((laidWorld os).forCall (fun _ _ => 0) ⟨#[], #[Value.slice none 0 0, Value.agg #[.int .i64 0, .int .i64 0, .slice none 0 0]], []⟩).memory :=
  laidMet_of_run' 8 (by kernel_rfl) (by kernel_rfl)
theorem reads (os : Os) {H : Type} (enc : TypeId × Value → H) : ∃ places, DataW.whole enc Try.prog ((laidWorld os).forCall (fun _ _ => 0) ⟨#[], #[Value.slice none 0 0, Value.agg #[.int .i64 0, .int .i64 0, .slice none 0 0]], []⟩).memory Try.f9.params.toList Rows.fnExactMayAmendSpec.vars false (#[Value.slice none 0 0, Value.agg #[.int .i64 0, .int .i64 0, .slice none 0 0]]).toList 8 = some ([.nil, .agg [.lit (.int .i64 0), .lit (.int .i64 0), .nil]], [], places) :=
  ⟨[], by kernel_rfl⟩
set_option maxRecDepth 100000 in
theorem lifted (os : Os) (started : os.Started) (H : Type) (enc : TypeId × Value → H) (F : Stop.Interp) :
    ReturnsInHanded {} Try.checked os 9 .any ((OpenSpec.ofChange Rows.fnExactMayAmendSpec).preRow enc Try.prog Try.f9 Rows.fnExactMayAmendRow.domain false Rows.fnExactMayAmendRow.laid) (((OpenSpec.ofChange Rows.fnExactMayAmendSpec).at F).post enc Try.prog Try.f9 false true false false) := by
  obtain ⟨places, hx⟩ := reads os enc
  refine returnsInHanded_of_row (C := Try.checked) (s := (OpenSpec.ofChange Rows.fnExactMayAmendSpec)) own started (by kernel_rfl) Try.func9
    (witness_row_at (enc := enc) (C := Try.checked) false (laidWorld os) #[Value.slice none 0 0, Value.agg #[.int .i64 0, .int .i64 0, .slice none 0 0]] rfl (by kernel_rfl) (by kernel_rfl) (by kernel_rfl)
      (OpenSpec.preRow_of_cond 8 hx (by kernel_rfl) (fun k hk => by cases hk) (by kernel_rfl) (laid_met os))) ?_
  intro W base args ds gs before hval hW _ hcond hreach hL _ _
  exact contract H enc W base args ds gs before hval hW hL hreach
theorem said : Rows.FnExactMayAmendSaid :=
  OpenClaim.holds_of_cond 9 Try.f9 rfl rfl rfl rfl rfl rfl rfl ⟨rfl, rfl, rfl, rfl, rfl⟩ rfl rfl rfl rfl rfl (by kernel_rfl) Try.func9 (by kernel_rfl)
    (of_decide_eq_true (by kernel_rfl)) (by unfold Func.isWrapper; first | (rw [if_pos (by decide +kernel)]; kernel_rfl) | (rw [if_neg (by decide +kernel)]; exact ⟨rfl, rfl⟩))
    (fun os started H enc _ F => by rw [OpenClaim.pre_eq_preRow]; exact lifted os started H enc F)
#print axioms said
end Go.Proofs.Yteffhbboeacogaa.fnExactMayAmend
