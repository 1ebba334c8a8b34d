/- Proves the given statement of the law 'FnExactAddSource': at every input that the statement admits, the law returns true and leaves its arguments as they were. Conditions: those of the given row, no other. -/
import Derived.Test.YtdhnhhicjjcmdaaRows
import Derived.LaidHandle
import Derived.LaidLaws
import Derived.Stop.Joined
import Derived.Stop.LaidErr
import Derived.ChangeMaps5
import Derived.WalkKit
import Derived.ProofKit
import Derived.OpenShut
import Derived.Deep.DeepHandedRow
import Derived.Lib.LaidTab
import Derived.Deep.RegionHeld3
import Derived.Test.YtdhnhhicjjcmdaaBase
import Derived.Test.YtdhnhhicjjcmdaaSrcG
import Derived.Test.YtdhnhhicjjcmdaaSourceC
import Derived.Test.YtdhnhhicjjcmdaaIntSS
import Derived.Test.YtdhnhhicjjcmdaaOpen
import Derived.Test.YtdhnhhicjjcmdaaGraph
namespace Go.Proofs.Ytdhnhhicjjcmdaa.fnExactAddSource
open Go.ChangeShapes Go.WideShapes Go.ChangeAt Go.RowKit
set_option linter.unusedVariables false
set_option maxRecDepth 100000
theorem own : ownKnob Try.prog.godebug = none := by kernel_rfl
theorem ucells : Try.prog.cellsOf 5 = 1 := by kernel_rfl
set_option maxHeartbeats 4000000 in
set_option maxRecDepth 100000 in
theorem core {W : World} {A0 : Option Addr} {c0 : Nat} {Y0 : List Src} (R0 : Rd W W.heap.size A0 (flE srcE Y0)) (hc0 : Y0.length ≤ c0) (hm0 : c0 ≤ maxLen) {p1 : Src} {r0 : List Src} (hr0 : r0.length ≤ 14000000) {x1 : Bool}
    (hS : ∀ (w : World) (B0 : Option Addr) (d0 : Nat), Y0.length ≤ 1048576 → Y0.length ≤ d0 → d0 ≤ maxLen → Rd w w.heap.size B0 (flE srcE Y0) → Calls Try.prog 26 #[.slice B0 Y0.length d0, .agg #[.int .i64 p1.1, .int .i64 p1.2.1, .int .i64 p1.2.2.1, .bool p1.2.2.2]] w (fun e w' => ∃ v0 : Value, e = .returned (.tuple #[v0, .bool x1]) ∧ RowG srcE w' w.heap.size w'.heap.size 40 v0 r0 ∧ Below w.heap.size w w'))
    (hI : ∀ (w : World) (B0 : Option Addr) (d0 : Nat), Y0.length ≤ 1048576 → Y0.length ≤ d0 → d0 ≤ maxLen → Rd w w.heap.size B0 (flE srcE Y0) → Calls Try.prog 28 #[.slice B0 Y0.length d0, .agg #[.int .i64 p1.1, .int .i64 p1.2.1, .int .i64 p1.2.2.1, .bool p1.2.2.2]] w (fun e w' => ∃ v0 : Value, e = .returned (.tuple #[v0, .bool x1]) ∧ RowG srcE w' w.heap.size w'.heap.size 40 v0 r0 ∧ Below w.heap.size w w')) :
    Calls Try.prog 7 #[.slice A0 Y0.length c0, .agg #[.int .i64 p1.1, .int .i64 p1.2.1, .int .i64 p1.2.2.1, .bool p1.2.2.2]] W (fun e W' => e = .returned (.bool true) ∧ Below W.heap.size W W') := by
  have HS := Lib.hid hS
  have HI := Lib.hid hI
  clear hS hI
  have early : Below W.heap.size W (W.alloc (Obj.cells #[.int .i64 p1.1, .int .i64 p1.2.1, .int .i64 p1.2.2.1, .bool p1.2.2.2] 37)) := ((Below.refl _ _).alloc (by simp; try omega) _)
  clear early
  have B0 : Below W.heap.size W W := Below.refl _ _
  go_enter Try.func7, Try.ntmps7
  go_wp2_with fail
  obtain ⟨w1, hw⟩ : ∃ u : World, u = W.alloc (Obj.cells #[.int .i64 p1.1, .int .i64 p1.2.1, .int .i64 p1.2.2.1, .bool p1.2.2.2] 37) := ⟨_, rfl⟩
  rw [← hw]
  have hb : Below W.heap.size W w1 := by rw [hw]; exact (Below.refl _ _).alloc (Nat.le_refl _) _
  have hbx : Bx w1 W.heap.size 37 #[.int .i64 p1.1, .int .i64 p1.2.1, .int .i64 p1.2.2.1, .bool p1.2.2.2] := by rw [hw]; exact Bx.made _ _ _
  have z1 : w1.heap.size = W.heap.size + 1 := by rw [hw]; simp
  clear hw
  have s1 := hb.size
  have B1 := B0.trans (hb.mono B0.size)
  have X_aX := hbx
  obtain ⟨C_aX_0, C_aX_1, C_aX_2, C_aX_3⟩ := X_aX.k4
  have l1 := hbx.lt
  clear hb hbx
  try (go_wp2_with fail)
  go_wp2_with fail
  refine (szSourceS_any (q := 1048576) (by unfold maxLen at hm0; omega) (by omega) (by omega)).mono ?_
  rintro e u0 ⟨rfl, rfl⟩
  by_cases hz0 : 1048576 < (Y0.length : Int)
  · rw [show szd 1048576 Y0.length = -1 by unfold szd; rw [if_pos (by omega)]]
    go_wp2_with fail
    go_ret
    exact ⟨rfl, B1⟩
  have hy0 : Y0.length ≤ 1048576 := by omega
  rw [show szd 1048576 Y0.length = 1048576 - (Y0.length : Int) by unfold szd; rw [if_neg (by omega)]]
  obtain ⟨r_0, hrr⟩ : ∃ r : Int, r = 1048576 - (Y0.length : Int) := ⟨_, rfl⟩
  rw [← hrr]
  have hq_0 : 0 ≤ r_0 ∧ r_0 ≤ 1048576 := by omega
  clear hrr hz0
  go_wp2_with fail
  have KE := fun (u : World) (q : Below w1.heap.size w1 u) => show Below w1.heap.size w1 u ∧ u.cell? ⟨W.heap.size, 0, none⟩ = some (.int .i64 p1.1) ∧ u.cell? ⟨W.heap.size, 1, none⟩ = some (.int .i64 p1.2.1) ∧ u.cell? ⟨W.heap.size, 2, none⟩ = some (.int .i64 p1.2.2.1) ∧ u.cell? ⟨W.heap.size, 3, none⟩ = some (.bool p1.2.2.2) from ⟨q, ((X_aX.new q).k4).1, ((X_aX.new q).k4).2.1, ((X_aX.new q).k4).2.2.1, ((X_aX.new q).k4).2.2.2⟩
  have kZ := Below.refl w1.heap.size w1
  have KEH := Lib.hid KE
  clear KE
  clear C_aX_0 C_aX_1 C_aX_2 C_aX_3
  go_region_held3 (fun u => Below w1.heap.size w1 u ∧ u.cell? ⟨W.heap.size, 0, none⟩ = some (.int .i64 p1.1) ∧ u.cell? ⟨W.heap.size, 1, none⟩ = some (.int .i64 p1.2.1) ∧ u.cell? ⟨W.heap.size, 2, none⟩ = some (.int .i64 p1.2.2.1) ∧ u.cell? ⟨W.heap.size, 3, none⟩ = some (.bool p1.2.2.2)) (first | assumption | with_reducible exact KEH.out _ kZ | with_reducible exact KEH.out _ (Below.drew kZ) | with_reducible exact KEH.out _ k9 | with_reducible exact KEH.out _ (Below.drew k9))
    (first
    | (go_at_call 13; (with_reducible refine (toSourceS_any (X := Y0) (Lib.hid rfl) (by omega) ((R0.below (B1.trans ((‹Below w1.heap.size w1 _ ∧ _›).1.mono B1.size))).more (B1.trans ((‹Below w1.heap.size w1 _ ∧ _›).1.mono B1.size)).size)).mono ?_); rintro e w2 ⟨v1, rfl, H1, hb9⟩; obtain ⟨E1, k1, rfl, _, hk1, hm1⟩ := H1.rd (n := Y0.length) rfl; have k9 := trans_new (‹Below w1.heap.size w1 _ ∧ _›).1 hb9; have t2 := hb9.size)
    | (go_at_call 27; (with_reducible refine (toSource_any).mono ?_); rintro e w3 ⟨rfl, hb9⟩; replace H1 := H1.new hb9; have k9 := trans_new (‹Below w1.heap.size w1 _ ∧ _›).1 hb9; have t3 := hb9.size)
    | (go_at_call 26; (with_reducible refine (HS.out _ _ _ (by omega) (by omega) (by assumption) (H1.rd'.more (by omega))).mono ?_); rintro e w4 ⟨v, rfl, hr, hb8⟩; have tz := k9.size; have k9 := trans_new (‹Below w1.heap.size w1 _ ∧ _›).1 hb8; have t4 := hb8.size))
  have hb := k9
  clear k9 kZ H1
  have B2 := B1
  have B3 := B1
  obtain ⟨E3, k3, rfl, _, hk3, hm3⟩ := hr.rd (n := r0.length) rfl
  have s4 := hb.size
  replace X_aX := X_aX.new hb
  have B4 := B3.trans (hb.mono B3.size)
  obtain ⟨C_aX_0, C_aX_1, C_aX_2, C_aX_3⟩ := X_aX.k4
  have Q_w0 := hr
  clear hr
  clear hb
  go_wp2_with fail
  refine (toSourceS_any (X := Y0) (Lib.hid rfl) (by omega) ((R0.below B4).more (by omega))).mono ?_
  rintro e w5 ⟨v, rfl, hr, hb⟩
  obtain ⟨E4, k4, rfl, _, hk4, hm4⟩ := hr.rd (n := Y0.length) rfl
  clear C_aX_0 C_aX_1 C_aX_2 C_aX_3
  have s5 := hb.size
  replace Q_w0 := Q_w0.new hb
  replace X_aX := X_aX.new hb
  have B5 := B4.trans (hb.mono B4.size)
  obtain ⟨C_aX_0, C_aX_1, C_aX_2, C_aX_3⟩ := X_aX.k4
  have Q_x0 := hr
  clear hr hb
  go_wp2_with fail
  refine (toSource_any).mono ?_
  rintro e w6 ⟨rfl, hb⟩
  clear C_aX_0 C_aX_1 C_aX_2 C_aX_3
  have s6 := hb.size
  replace Q_w0 := Q_w0.new hb
  replace Q_x0 := Q_x0.new hb
  replace X_aX := X_aX.new hb
  have B6 := B5.trans (hb.mono B5.size)
  obtain ⟨C_aX_0, C_aX_1, C_aX_2, C_aX_3⟩ := X_aX.k4
  clear hb
  go_wp2_with fail
  refine ((HI.out w6 _ _ (by omega) (by omega) (by assumption) (Q_x0.rd'.more (by omega)))).mono ?_
  rintro e w7 ⟨v, rfl, hr, hb⟩
  obtain ⟨E5, k5, rfl, _, hk5, hm5⟩ := hr.rd (n := r0.length) rfl
  clear C_aX_0 C_aX_1 C_aX_2 C_aX_3
  have s7 := hb.size
  replace Q_w0 := Q_w0.new hb
  replace Q_x0 := Q_x0.new hb
  replace X_aX := X_aX.new hb
  have B7 := B6.trans (hb.mono B6.size)
  obtain ⟨C_aX_0, C_aX_1, C_aX_2, C_aX_3⟩ := X_aX.k4
  have Q_g0 := hr
  clear hr
  clear hb
  go_wp2_with fail
  refine (eqSourceS_any (X := r0) (Y := r0) (Lib.hid rfl) (Lib.hid rfl) (by omega) (by omega) (Q_g0.rd'.more (by omega)) (Q_w0.rd'.more (by omega))).mono ?_
  rintro e w8 ⟨he, hb⟩
  rw [show decide (r0 = r0) = true from decide_eq_true rfl] at he
  subst he
  clear C_aX_0 C_aX_1 C_aX_2 C_aX_3
  have s8 := hb.size
  replace Q_w0 := Q_w0.new hb
  replace Q_x0 := Q_x0.new hb
  replace Q_g0 := Q_g0.new hb
  replace X_aX := X_aX.new hb
  have B8 := B7.trans (hb.mono B7.size)
  obtain ⟨C_aX_0, C_aX_1, C_aX_2, C_aX_3⟩ := X_aX.k4
  clear hb
  go_wp2_with fail
  refine (toSourceS_any (X := Y0) (Lib.hid rfl) (by omega) ((R0.below B8).more (by omega))).mono ?_
  rintro e w9 ⟨v, rfl, hr, hb⟩
  obtain ⟨E7, k7, rfl, _, hk7, hm7⟩ := hr.rd (n := Y0.length) rfl
  clear C_aX_0 C_aX_1 C_aX_2 C_aX_3
  have s9 := hb.size
  replace Q_w0 := Q_w0.new hb
  replace Q_x0 := Q_x0.new hb
  replace Q_g0 := Q_g0.new hb
  replace X_aX := X_aX.new hb
  have B9 := B8.trans (hb.mono B8.size)
  obtain ⟨C_aX_0, C_aX_1, C_aX_2, C_aX_3⟩ := X_aX.k4
  have Q_t6 := hr
  clear hr hb
  go_wp2_with fail
  refine (eqSourceS_any (X := Y0) (Y := Y0) (Lib.hid rfl) (Lib.hid rfl) (by omega) (by omega) (Q_x0.rd'.more (by omega)) (Q_t6.rd'.more (by omega))).mono ?_
  rintro e w10 ⟨he, hb⟩
  rw [show decide (Y0 = Y0) = true from decide_eq_true rfl] at he
  subst he
  clear Q_t6
  clear C_aX_0 C_aX_1 C_aX_2 C_aX_3
  have s10 := hb.size
  replace Q_w0 := Q_w0.new hb
  replace Q_x0 := Q_x0.new hb
  replace Q_g0 := Q_g0.new hb
  replace X_aX := X_aX.new hb
  have B10 := B9.trans (hb.mono B9.size)
  obtain ⟨C_aX_0, C_aX_1, C_aX_2, C_aX_3⟩ := X_aX.k4
  clear hb
  go_wp2_with fail
  refine (markSourceS_any (n := Y0.length) (q := 1) (Lib.hid rfl) (by omega) (by omega) (by omega) Q_x0).mono ?_
  rintro e w11 ⟨rfl, hr, ho⟩
  clear C_aX_0 C_aX_1 C_aX_2 C_aX_3
  have s11 := ho.size
  replace Q_w0 := Q_w0.out ho (by omega)
  replace Q_g0 := Q_g0.out ho (by omega)
  replace X_aX := X_aX.out ho (by omega)
  have B11 := B10.trans (ho.below (by omega) (by omega))
  obtain ⟨C_aX_0, C_aX_1, C_aX_2, C_aX_3⟩ := X_aX.k4
  replace Q_x0 := hr
  clear hr ho
  go_wp2_with fail
  refine (eqSourceS_any (X := r0) (Y := r0) (Lib.hid rfl) (Lib.hid rfl) (by omega) (by omega) (Q_g0.rd'.more (by omega)) (Q_w0.rd'.more (by omega))).mono ?_
  rintro e w12 ⟨he, hb⟩
  rw [show decide (r0 = r0) = true from decide_eq_true rfl] at he
  subst he
  clear C_aX_0 C_aX_1 C_aX_2 C_aX_3
  have s12 := hb.size
  replace Q_w0 := Q_w0.new hb
  replace Q_x0 := Q_x0.new hb
  replace Q_g0 := Q_g0.new hb
  replace X_aX := X_aX.new hb
  have B12 := B11.trans (hb.mono B11.size)
  obtain ⟨C_aX_0, C_aX_1, C_aX_2, C_aX_3⟩ := X_aX.k4
  clear hb
  go_wp2_with fail
  refine (markSourceS_any (n := r0.length) (q := 1) (Lib.hid rfl) (by omega) (by omega) (by omega) Q_g0).mono ?_
  rintro e w13 ⟨rfl, hr, ho⟩
  clear C_aX_0 C_aX_1 C_aX_2 C_aX_3
  have s13 := ho.size
  replace Q_w0 := Q_w0.out ho (by omega)
  replace Q_x0 := Q_x0.out ho (by omega)
  replace X_aX := X_aX.out ho (by omega)
  have B13 := B12.trans (ho.below (by omega) (by omega))
  obtain ⟨C_aX_0, C_aX_1, C_aX_2, C_aX_3⟩ := X_aX.k4
  replace Q_g0 := hr
  clear hr ho
  go_wp2_with fail
  refine (heldSourceS_any (n := r0.length) (q := 1) (by omega) (by omega) (by omega) (Q_g0.rd'.more (by omega))).mono ?_
  rintro e w14 ⟨rfl, rfl⟩
  go_wp2_with fail
  have KE := fun (u : World) (q : Below w13.heap.size w13 u) => show Below w13.heap.size w13 u ∧ u.cell? ⟨W.heap.size, 0, none⟩ = some (.int .i64 p1.1) ∧ u.cell? ⟨W.heap.size, 1, none⟩ = some (.int .i64 p1.2.1) ∧ u.cell? ⟨W.heap.size, 2, none⟩ = some (.int .i64 p1.2.2.1) ∧ u.cell? ⟨W.heap.size, 3, none⟩ = some (.bool p1.2.2.2) from ⟨q, ((X_aX.new q).k4).1, ((X_aX.new q).k4).2.1, ((X_aX.new q).k4).2.2.1, ((X_aX.new q).k4).2.2.2⟩
  have kZ := Below.refl w13.heap.size w13
  have KEH := Lib.hid KE
  clear KE
  clear C_aX_0 C_aX_1 C_aX_2 C_aX_3
  go_region_held3 (fun u => Below w13.heap.size w13 u ∧ u.cell? ⟨W.heap.size, 0, none⟩ = some (.int .i64 p1.1) ∧ u.cell? ⟨W.heap.size, 1, none⟩ = some (.int .i64 p1.2.1) ∧ u.cell? ⟨W.heap.size, 2, none⟩ = some (.int .i64 p1.2.2.1) ∧ u.cell? ⟨W.heap.size, 3, none⟩ = some (.bool p1.2.2.2)) (first | assumption | with_reducible exact KEH.out _ kZ | with_reducible exact KEH.out _ (Below.drew kZ) | with_reducible exact KEH.out _ k9 | with_reducible exact KEH.out _ (Below.drew k9))
    (first
    | (go_at_call 13; (with_reducible refine (toSourceS_any (X := Y0) (Lib.hid rfl) (by omega) ((R0.below (B13.trans ((‹Below w13.heap.size w13 _ ∧ _›).1.mono B13.size))).more (B13.trans ((‹Below w13.heap.size w13 _ ∧ _›).1.mono B13.size)).size)).mono ?_); rintro e w14 ⟨v8, rfl, H8, hb9⟩; obtain ⟨E8, k8, rfl, _, hk8, hm8⟩ := H8.rd (n := Y0.length) rfl; have k9 := trans_new (‹Below w13.heap.size w13 _ ∧ _›).1 hb9; have t14 := hb9.size)
    | (go_at_call 27; (with_reducible refine (toSource_any).mono ?_); rintro e w15 ⟨rfl, hb9⟩; replace H8 := H8.new hb9; have k9 := trans_new (‹Below w13.heap.size w13 _ ∧ _›).1 hb9; have t15 := hb9.size)
    | (go_at_call 28; (with_reducible refine (HI.out _ _ _ (by omega) (by omega) (by assumption) (H8.rd'.more (by omega))).mono ?_); rintro e w16 ⟨v, rfl, hr, hb8⟩; have tz := k9.size; have k9 := trans_new (‹Below w13.heap.size w13 _ ∧ _›).1 hb8; have t16 := hb8.size))
  have hb := k9
  clear k9 kZ H8
  have B14 := B13
  have B15 := B13
  obtain ⟨E10, k10, rfl, _, hk10, hm10⟩ := hr.rd (n := r0.length) rfl
  have s16 := hb.size
  replace Q_w0 := Q_w0.new hb
  replace Q_x0 := Q_x0.new hb
  replace Q_g0 := Q_g0.new hb
  replace X_aX := X_aX.new hb
  have B16 := B15.trans (hb.mono B15.size)
  obtain ⟨C_aX_0, C_aX_1, C_aX_2, C_aX_3⟩ := X_aX.k4
  have Q_h0 := hr
  clear hr
  clear hb
  go_wp2_with fail
  refine (eqSourceS_any (X := r0) (Y := r0) (Lib.hid rfl) (Lib.hid rfl) (by omega) (by omega) (Q_h0.rd'.more (by omega)) (Q_w0.rd'.more (by omega))).mono ?_
  rintro e w17 ⟨he, hb⟩
  rw [show decide (r0 = r0) = true from decide_eq_true rfl] at he
  subst he
  clear C_aX_0 C_aX_1 C_aX_2 C_aX_3
  have s17 := hb.size
  replace Q_w0 := Q_w0.new hb
  replace Q_x0 := Q_x0.new hb
  replace Q_g0 := Q_g0.new hb
  replace Q_h0 := Q_h0.new hb
  replace X_aX := X_aX.new hb
  have B17 := B16.trans (hb.mono B16.size)
  obtain ⟨C_aX_0, C_aX_1, C_aX_2, C_aX_3⟩ := X_aX.k4
  clear hb
  go_wp2_with fail
  refine (heldSourceS_any (n := r0.length) (q := 1) (by omega) (by omega) (by omega) (Q_g0.rd'.more (by omega))).mono ?_
  rintro e w18 ⟨rfl, rfl⟩
  go_wp2_with fail
  go_ret
  exact ⟨rfl, B17⟩
theorem contract (H : Type) (enc : TypeId × Value → H) (W : World) (base : Nat) (args : Array Value) (ds gs : List (DataW H)) (before : List MemPlace)
    (hval : ∀ (j : Nat) t v, Try.f7.params[j]? = some t → args[j]? = some v → Value.okWide Try.prog W .any base t v)
    (hW : DataW.Whole enc Try.prog Try.f7.params.toList Rows.fnExactAddSourceSpec.vars false W args.toList ds gs before) (hL : laidMetH Try.prog Rows.fnExactAddSourceRow.laid W)
    (hreach : (DataW.weightsEach Try.prog (Try.f7.params.toList ++ (OpenSpec.ofChange Rows.fnExactAddSourceSpec).bare.plain.varTypes Try.prog) (ds ++ gs)).all (· ≤ reachBytes) = true) :
    Calls Try.prog 7 args W fun e W' => ∃ v, e = .returned v ∧ Rows.fnExactAddSourceSpec.post enc Try.prog Try.f7 false true false false W args v W' := by
  have hW' := hW
  obtain ⟨p, q, hA0, hV, rfl, hfz, hnd⟩ := hW
  have hA : DataW.TrodAll enc Try.prog W 0 (fun _ => true) true Try.f7.params.toList args.toList ds p := hA0
  rw [Try.params7] at hA hval
  obtain ⟨v0, vs0, d0, ds0, p0, q0, hargs, rfl, rfl, h0, r0⟩ := trodAll_cons hA
  obtain ⟨v1, vs1, d1, ds1, p1, q1, rfl, rfl, rfl, h1, r1⟩ := trodAll_cons r0
  obtain ⟨rfl, rfl, rfl⟩ := trodAll_nil r1
  obtain rfl : args = #[v0, v1] := by cases args; simp_all
  obtain ⟨rfl, rfl⟩ := trodVars_none hV
  obtain ⟨A0, c0, Y0, rfl, R0, hc0, hm0⟩ := slice_openG srcE Try.underlying22 (by kernel_rfl : Try.prog.cellsOf 37 = 4) (src_el Try.underlying37 rfl rfl rfl rfl Try.underlying3 Try.underlying3 Try.underlying3 Try.underlying4 (by kernel_rfl) (by kernel_rfl) (by kernel_rfl) (by kernel_rfl)) (hval 0 22 v0 rfl rfl) h0
  obtain ⟨p1, rfl⟩ := src_open Try.underlying37 (by kernel_rfl) (by kernel_rfl : Try.prog.cellsOf 37 = 4) Try.underlying3 Try.underlying3 Try.underlying3 Try.underlying4 (hval 1 37 v1 rfl rfl) h1
  clear hA0 hval
  have walked : Calls Try.prog 7 #[.slice A0 Y0.length c0, .agg #[.int .i64 p1.1, .int .i64 p1.2.1, .int .i64 p1.2.2.1, .bool p1.2.2.2]] W fun e W' => e = .returned (.bool true) ∧ Below W.heap.size W W' := by
    exact core (r0 := if Y0.length ≤ 1048576 then adsL Y0 p1 else []) (x1 := srcB (Y0 ++ [p1])) R0 hc0 hm0 (by split; (have h1 := ads_len Y0 p1; omega); simp) (fun w B d hz hd hm hr => by rw [if_pos hz]; exact specAddSource_any (Lib.hid rfl) (by omega) hr) (fun w B d hz hd hm hr => by rw [if_pos hz]; exact impAddSource_any (Lib.hid rfl) (by omega) hr)
  refine walked.mono fun e W' ⟨he, hb⟩ => ?_
  exact ⟨_, he, post_true (tb := 4) hW' rfl Try.underlying4 rfl rfl (by kernel_rfl) (by kernel_rfl) hb⟩
noncomputable def laidWorld (os : Os) : World := World.holding Try.prog os ⟨#[], #[], []⟩
theorem laid_met (os : Os) : laidMet Try.prog Rows.fnExactAddSourceRow.laid ((laidWorld os).forCall (fun _ _ => 0) ⟨#[], #[Value.slice none 0 0, Value.agg #[.int .i64 0, .int .i64 0, .int .i64 0, .bool false]], []⟩).memory :=
  laidMet_of_run' 8 (by kernel_rfl) (by kernel_rfl)
theorem reads (os : Os) {H : Type} (enc : TypeId × Value → H) : ∃ places, DataW.whole enc Try.prog ((laidWorld os).forCall (fun _ _ => 0) ⟨#[], #[Value.slice none 0 0, Value.agg #[.int .i64 0, .int .i64 0, .int .i64 0, .bool false]], []⟩).memory Try.f7.params.toList Rows.fnExactAddSourceSpec.vars false (#[Value.slice none 0 0, Value.agg #[.int .i64 0, .int .i64 0, .int .i64 0, .bool false]]).toList 8 = some ([.nil, .agg [.lit (.int .i64 0), .lit (.int .i64 0), .lit (.int .i64 0), .lit (.bool false)]], [], places) :=
  ⟨[], by kernel_rfl⟩
set_option maxRecDepth 100000 in
theorem lifted (os : Os) (started : os.Started) (H : Type) (enc : TypeId × Value → H) (F : Stop.Interp) :
    ReturnsInHanded {} Try.checked os 7 .any ((OpenSpec.ofChange Rows.fnExactAddSourceSpec).preRow enc Try.prog Try.f7 Rows.fnExactAddSourceRow.domain false Rows.fnExactAddSourceRow.laid) (((OpenSpec.ofChange Rows.fnExactAddSourceSpec).at F).post enc Try.prog Try.f7 false true false false) := by
  obtain ⟨places, hx⟩ := reads os enc
  refine returnsInHanded_of_row (C := Try.checked) (s := (OpenSpec.ofChange Rows.fnExactAddSourceSpec)) own started (by kernel_rfl) Try.func7
    (witness_row_at (enc := enc) (C := Try.checked) false (laidWorld os) #[Value.slice none 0 0, Value.agg #[.int .i64 0, .int .i64 0, .int .i64 0, .bool false]] rfl (by kernel_rfl) (by kernel_rfl) (by kernel_rfl)
      (OpenSpec.preRow_of_cond 8 hx (by kernel_rfl) (fun k hk => by cases hk) (by kernel_rfl) (laid_met os))) ?_
  intro W base args ds gs before hval hW _ hcond hreach hL _ _
  exact contract H enc W base args ds gs before hval hW hL hreach
theorem said : Rows.FnExactAddSourceSaid :=
  OpenClaim.holds_of_cond 7 Try.f7 rfl rfl rfl rfl rfl rfl rfl ⟨rfl, rfl, rfl, rfl, rfl⟩ rfl rfl rfl rfl rfl (by kernel_rfl) Try.func7 (by kernel_rfl)
    (of_decide_eq_true (by kernel_rfl)) (by unfold Func.isWrapper; first | (rw [if_pos (by decide +kernel)]; kernel_rfl) | (rw [if_neg (by decide +kernel)]; exact ⟨rfl, rfl⟩))
    (fun os started H enc _ F => by rw [OpenClaim.pre_eq_preRow]; exact lifted os started H enc F)
#print axioms said
end Go.Proofs.Ytdhnhhicjjcmdaa.fnExactAddSource
