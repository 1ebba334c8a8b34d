/- Proves the given statement of the law 'FnExactTurnedAway': at every input that the statement admits, the law returns true and leaves its arguments as they were. Conditions: those of the given row, no other. -/
import Derived.Test.YtjjgdeojbpcjjaaRows
import Derived.LaidHandle
import Derived.LaidLaws
import Derived.Stop.Joined
import Derived.Stop.LaidErr
import Derived.ChangeMaps5
import Derived.WalkKit
import Derived.ProofKit
import Derived.OpenShut
import Derived.Deep.DeepHandedRow
import Derived.Lib.LaidTab
import Derived.Deep.RegionHeld3
import Derived.Test.YtjjgdeojbpcjjaaBase
import Derived.Test.YtjjgdeojbpcjjaaTawM
import Derived.Test.YtjjgdeojbpcjjaaTawC
import Derived.Test.YtjjgdeojbpcjjaaRoomB
import Derived.Test.YtjjgdeojbpcjjaaOpen2
import Derived.Test.YtjjgdeojbpcjjaaOpen
import Derived.Test.YtjjgdeojbpcjjaaIntSS
import Derived.Test.YtjjgdeojbpcjjaaGraph
namespace Go.Proofs.Ytjjgdeojbpcjjaa.fnExactTurnedAway
open Go.ChangeShapes Go.WideShapes Go.ChangeAt Go.RowKit
set_option linter.unusedVariables false
set_option maxRecDepth 100000
theorem own : ownKnob Try.prog.godebug = none := by kernel_rfl
theorem ucells : Try.prog.cellsOf 5 = 1 := by kernel_rfl
set_option maxHeartbeats 4000000 in
set_option maxRecDepth 100000 in
theorem core {W : World} {A0 : Option Addr} {c0 : Nat} {Y0 : List T2} (R0 : Rd W W.heap.size A0 (t2s Y0)) (hc0 : Y0.length ≤ c0) (hm0 : c0 ≤ maxLen) {A1 : Option Addr} {c1 : Nat} {z1 : List Int} (R1 : Rd W W.heap.size A1 (ivs z1)) (hc1 : z1.length ≤ c1) {A2 : Option Addr} {c2 : Nat} {z2 : List Int} (R2 : Rd W W.heap.size A2 (ivs z2)) (hc2 : z2.length ≤ c2) {x0 : Int}
    (hS : ∀ (w : World) (B0 : Option Addr) (d0 : Nat) (B1 : Option Addr) (d1 : Nat) (B2 : Option Addr) (d2 : Nat), Y0.length ≤ 1048576 → Y0.length ≤ d0 → d0 ≤ maxLen → Rd w w.heap.size B0 (t2s Y0) → z1.length ≤ 1048576 → z1.length ≤ d1 → d1 ≤ maxLen → Rd w w.heap.size B1 (ivs z1) → z2.length ≤ 1048576 → z2.length ≤ d2 → d2 ≤ maxLen → Rd w w.heap.size B2 (ivs z2) → Calls Try.prog 61 #[.slice B0 Y0.length d0, .slice B1 z1.length d1, .slice B2 z2.length d2] w (fun e w' => e = .returned (.int .i64 x0) ∧ Below w.heap.size w w'))
    (hI : ∀ (w : World) (B0 : Option Addr) (d0 : Nat) (B1 : Option Addr) (d1 : Nat) (B2 : Option Addr) (d2 : Nat), Y0.length ≤ 1048576 → Y0.length ≤ d0 → d0 ≤ maxLen → Rd w w.heap.size B0 (t2s Y0) → z1.length ≤ 1048576 → z1.length ≤ d1 → d1 ≤ maxLen → Rd w w.heap.size B1 (ivs z1) → z2.length ≤ 1048576 → z2.length ≤ d2 → d2 ≤ maxLen → Rd w w.heap.size B2 (ivs z2) → Calls Try.prog 63 #[.slice B0 Y0.length d0, .slice B1 z1.length d1, .slice B2 z2.length d2] w (fun e w' => e = .returned (.int .i64 x0) ∧ Below w.heap.size w w')) :
    Calls Try.prog 14 #[.slice A0 Y0.length c0, .slice A1 z1.length c1, .slice A2 z2.length c2] W (fun e W' => e = .returned (.bool true) ∧ Below W.heap.size W W') := by
  have HS := Lib.hid hS
  have HI := Lib.hid hI
  clear hS hI
  have early : Below W.heap.size W W := (Below.refl _ _)
  by_cases hz1 : 1048576 < z1.length
  · go_enter Try.func14, Try.ntmps14
    go_wp2_with fail
    go_ret
    exact ⟨rfl, early⟩
  have hy1 : z1.length ≤ 1048576 := by omega
  clear hz1
  by_cases hz2 : 1048576 < z2.length
  · go_enter Try.func14, Try.ntmps14
    go_wp2_with fail
    go_ret
    exact ⟨rfl, early⟩
  have hy2 : z2.length ≤ 1048576 := by omega
  clear hz2
  clear early
  have B0 : Below W.heap.size W W := Below.refl _ _
  go_enter Try.func14, Try.ntmps14
  go_wp2_with fail
  refine (szRoomS_any (q := 1048576) (by unfold maxLen at hm0; omega) (by omega) (by omega)).mono ?_
  rintro e u0 ⟨rfl, rfl⟩
  by_cases hz0 : 1048576 < (Y0.length : Int)
  · rw [show szd 1048576 Y0.length = -1 by unfold szd; rw [if_pos (by omega)]]
    go_wp2_with fail
    go_ret
    exact ⟨rfl, B0⟩
  have hy0 : Y0.length ≤ 1048576 := by omega
  rw [show szd 1048576 Y0.length = 1048576 - (Y0.length : Int) by unfold szd; rw [if_neg (by omega)]]
  obtain ⟨r_0, hrr⟩ : ∃ r : Int, r = 1048576 - (Y0.length : Int) := ⟨_, rfl⟩
  rw [← hrr]
  have hq_0 : 0 ≤ r_0 ∧ r_0 ≤ 1048576 := by omega
  clear hrr hz0
  go_wp2_with fail
  refine (toRoomS_any (X := Y0) (Lib.hid rfl) (by omega) ((R0.below B0).more (by omega))).mono ?_
  rintro e w1 ⟨v, rfl, hr, hb⟩
  obtain ⟨E2, k2, rfl, _, hk2, hm2⟩ := hr.rd (n := Y0.length) rfl
  have s1 := hb.size
  have B1 := B0.trans (hb.mono B0.size)
  have Q_t1 := hr
  clear hr hb
  go_wp2_with fail
  refine (toIntS_any (zs := z1) (Lib.hid rfl) (by omega) ((R1.below B1).more (by omega))).mono ?_
  rintro e w2 ⟨v, rfl, hr, hb⟩
  obtain ⟨E4, k4, rfl, _, hk4, hm4⟩ := hr.rd (ivs_len z1)
  have s2 := hb.size
  replace Q_t1 := Q_t1.new hb
  have B2 := B1.trans (hb.mono B1.size)
  have Q_t3 := hr
  clear hr hb
  go_wp2_with fail
  refine (toIntS_any (zs := z2) (Lib.hid rfl) (by omega) ((R2.below B2).more (by omega))).mono ?_
  rintro e w3 ⟨v, rfl, hr, hb⟩
  obtain ⟨E6, k6, rfl, _, hk6, hm6⟩ := hr.rd (ivs_len z2)
  have s3 := hb.size
  replace Q_t1 := Q_t1.new hb
  replace Q_t3 := Q_t3.new hb
  have B3 := B2.trans (hb.mono B2.size)
  have Q_t5 := hr
  clear hr hb
  go_wp2_with fail
  refine ((HS.out w3 _ _ _ _ _ _ (by omega) (by omega) (by assumption) (Q_t1.rd'.more (by omega)) (by omega) (by omega) (by assumption) (Q_t3.rd'.more (by omega)) (by omega) (by omega) (by assumption) (Q_t5.rd'.more (by omega)))).mono ?_
  rintro e w4 ⟨rfl, hb⟩
  clear Q_t1
  clear Q_t3
  clear Q_t5
  have s4 := hb.size
  have B4 := B3.trans (hb.mono B3.size)
  clear hb
  go_wp2_with fail
  refine (toRoomS_any (X := Y0) (Lib.hid rfl) (by omega) ((R0.below B4).more (by omega))).mono ?_
  rintro e w5 ⟨v, rfl, hr, hb⟩
  obtain ⟨E7, k7, rfl, _, hk7, hm7⟩ := hr.rd (n := Y0.length) rfl
  have s5 := hb.size
  have B5 := B4.trans (hb.mono B4.size)
  have Q_x0 := hr
  clear hr hb
  go_wp2_with fail
  refine (toIntS_any (zs := z1) (Lib.hid rfl) (by omega) ((R1.below B5).more (by omega))).mono ?_
  rintro e w6 ⟨v, rfl, hr, hb⟩
  obtain ⟨E8, k8, rfl, _, hk8, hm8⟩ := hr.rd (ivs_len z1)
  have s6 := hb.size
  replace Q_x0 := Q_x0.new hb
  have B6 := B5.trans (hb.mono B5.size)
  have Q_x1 := hr
  clear hr hb
  go_wp2_with fail
  refine (toIntS_any (zs := z2) (Lib.hid rfl) (by omega) ((R2.below B6).more (by omega))).mono ?_
  rintro e w7 ⟨v, rfl, hr, hb⟩
  obtain ⟨E9, k9, rfl, _, hk9, hm9⟩ := hr.rd (ivs_len z2)
  have s7 := hb.size
  replace Q_x0 := Q_x0.new hb
  replace Q_x1 := Q_x1.new hb
  have B7 := B6.trans (hb.mono B6.size)
  have Q_x2 := hr
  clear hr hb
  go_wp2_with fail
  refine ((HI.out w7 _ _ _ _ _ _ (by omega) (by omega) (by assumption) (Q_x0.rd'.more (by omega)) (by omega) (by omega) (by assumption) (Q_x1.rd'.more (by omega)) (by omega) (by omega) (by assumption) (Q_x2.rd'.more (by omega)))).mono ?_
  rintro e w8 ⟨rfl, hb⟩
  have s8 := hb.size
  replace Q_x0 := Q_x0.new hb
  replace Q_x1 := Q_x1.new hb
  replace Q_x2 := Q_x2.new hb
  have B8 := B7.trans (hb.mono B7.size)
  clear hb
  go_wp2_with fail
  refine (toRoomS_any (X := Y0) (Lib.hid rfl) (by omega) ((R0.below B8).more (by omega))).mono ?_
  rintro e w9 ⟨v, rfl, hr, hb⟩
  obtain ⟨E11, k11, rfl, _, hk11, hm11⟩ := hr.rd (n := Y0.length) rfl
  have s9 := hb.size
  replace Q_x0 := Q_x0.new hb
  replace Q_x1 := Q_x1.new hb
  replace Q_x2 := Q_x2.new hb
  have B9 := B8.trans (hb.mono B8.size)
  have Q_t10 := hr
  clear hr hb
  go_wp2_with fail
  refine (eqRoomS_any (X := Y0) (Y := Y0) (Lib.hid rfl) (Lib.hid rfl) (by omega) (by omega) (Q_x0.rd'.more (by omega)) (Q_t10.rd'.more (by omega))).mono ?_
  rintro e w10 ⟨he, hb⟩
  rw [show decide (Y0 = Y0) = true from decide_eq_true rfl] at he
  subst he
  clear Q_t10
  have s10 := hb.size
  replace Q_x0 := Q_x0.new hb
  replace Q_x1 := Q_x1.new hb
  replace Q_x2 := Q_x2.new hb
  have B10 := B9.trans (hb.mono B9.size)
  clear hb
  go_wp2_with fail
  refine (toIntS_any (zs := z1) (Lib.hid rfl) (by omega) ((R1.below B10).more (by omega))).mono ?_
  rintro e w11 ⟨v, rfl, hr, hb⟩
  obtain ⟨E13, k13, rfl, _, hk13, hm13⟩ := hr.rd (ivs_len z1)
  have s11 := hb.size
  replace Q_x0 := Q_x0.new hb
  replace Q_x1 := Q_x1.new hb
  replace Q_x2 := Q_x2.new hb
  have B11 := B10.trans (hb.mono B10.size)
  have Q_t12 := hr
  clear hr hb
  go_wp2_with fail
  refine (eqIntS_any (zs := z1) (ys := z1) (Lib.hid rfl) (Lib.hid rfl) (by omega) (by omega) (Q_x1.rd'.more (by omega)) (Q_t12.rd'.more (by omega))).mono ?_
  rintro e w12 ⟨he, hb⟩
  rw [show decide (z1 = z1) = true from decide_eq_true rfl] at he
  subst he
  clear Q_t12
  have s12 := hb.size
  replace Q_x0 := Q_x0.new hb
  replace Q_x1 := Q_x1.new hb
  replace Q_x2 := Q_x2.new hb
  have B12 := B11.trans (hb.mono B11.size)
  clear hb
  go_wp2_with fail
  refine (toIntS_any (zs := z2) (Lib.hid rfl) (by omega) ((R2.below B12).more (by omega))).mono ?_
  rintro e w13 ⟨v, rfl, hr, hb⟩
  obtain ⟨E15, k15, rfl, _, hk15, hm15⟩ := hr.rd (ivs_len z2)
  have s13 := hb.size
  replace Q_x0 := Q_x0.new hb
  replace Q_x1 := Q_x1.new hb
  replace Q_x2 := Q_x2.new hb
  have B13 := B12.trans (hb.mono B12.size)
  have Q_t14 := hr
  clear hr hb
  go_wp2_with fail
  refine (eqIntS_any (zs := z2) (ys := z2) (Lib.hid rfl) (Lib.hid rfl) (by omega) (by omega) (Q_x2.rd'.more (by omega)) (Q_t14.rd'.more (by omega))).mono ?_
  rintro e w14 ⟨he, hb⟩
  rw [show decide (z2 = z2) = true from decide_eq_true rfl] at he
  subst he
  clear Q_t14
  have s14 := hb.size
  replace Q_x0 := Q_x0.new hb
  replace Q_x1 := Q_x1.new hb
  replace Q_x2 := Q_x2.new hb
  have B14 := B13.trans (hb.mono B13.size)
  clear hb
  go_wp2_with fail
  go_ret
  exact ⟨rfl, B14⟩
theorem contract (H : Type) (enc : TypeId × Value → H) (W : World) (base : Nat) (args : Array Value) (ds gs : List (DataW H)) (before : List MemPlace)
    (hval : ∀ (j : Nat) t v, Try.f14.params[j]? = some t → args[j]? = some v → Value.okWide Try.prog W .any base t v)
    (hW : DataW.Whole enc Try.prog Try.f14.params.toList Rows.fnExactTurnedAwaySpec.vars false W args.toList ds gs before) (hL : laidMetH Try.prog Rows.fnExactTurnedAwayRow.laid W)
    (hreach : (DataW.weightsEach Try.prog (Try.f14.params.toList ++ (OpenSpec.ofChange Rows.fnExactTurnedAwaySpec).bare.plain.varTypes Try.prog) (ds ++ gs)).all (· ≤ reachBytes) = true) :
    Calls Try.prog 14 args W fun e W' => ∃ v, e = .returned v ∧ Rows.fnExactTurnedAwaySpec.post enc Try.prog Try.f14 false true false false W args v W' := by
  have hW' := hW
  obtain ⟨p, q, hA0, hV, rfl, hfz, hnd⟩ := hW
  have hA : DataW.TrodAll enc Try.prog W 0 (fun _ => true) true Try.f14.params.toList args.toList ds p := hA0
  rw [Try.params14] at hA hval
  obtain ⟨v0, vs0, d0, ds0, p0, q0, hargs, rfl, rfl, h0, r0⟩ := trodAll_cons hA
  obtain ⟨v1, vs1, d1, ds1, p1, q1, rfl, rfl, rfl, h1, r1⟩ := trodAll_cons r0
  obtain ⟨v2, vs2, d2, ds2, p2, q2, rfl, rfl, rfl, h2, r2⟩ := trodAll_cons r1
  obtain ⟨rfl, rfl, rfl⟩ := trodAll_nil r2
  obtain rfl : args = #[v0, v1, v2] := by cases args; simp_all
  obtain ⟨rfl, rfl⟩ := trodVars_none hV
  obtain ⟨A0, c0, Y0, rfl, R0, hc0, hm0, hb0⟩ := slice_open2 Try.underlying69 Try.underlying133 (by kernel_rfl : Try.prog.cellsOf 133 = 2) rfl rfl Try.underlying3 Try.underlying3 (by kernel_rfl) (by kernel_rfl) (hval 0 69 v0 rfl rfl) h0
  obtain ⟨A1, c1, z1, rfl, R1, hc1, hm1, hb1⟩ := slice_open Try.underlying27 Try.underlying3 (by kernel_rfl : Try.prog.cellsOf 3 = 1) (hval 1 27 v1 rfl rfl) h1
  obtain ⟨A2, c2, z2, rfl, R2, hc2, hm2, hb2⟩ := slice_open Try.underlying27 Try.underlying3 (by kernel_rfl : Try.prog.cellsOf 3 = 1) (hval 2 27 v2 rfl rfl) h2
  clear hA0 hval
  have walked : Calls Try.prog 14 #[.slice A0 Y0.length c0, .slice A1 z1.length c1, .slice A2 z2.length c2] W fun e W' => e = .returned (.bool true) ∧ Below W.heap.size W W' := by
    exact core (x0 := tawI Y0 z1 z2) R0 hc0 hm0 R1 hc1 R2 hc2 (fun w B d B1 d1 B2 d2 hz hd hm hr hz1 hd1 hm1 hr1 hz2 hd2 hm2 hr2 => specTurnedAway_any (Lib.hid rfl) (by omega) (Lib.hid rfl) (by omega) (Lib.hid rfl) (by omega) hr hr1 hr2) (fun w B d B1 d1 B2 d2 hz hd hm hr hz1 hd1 hm1 hr1 hz2 hd2 hm2 hr2 => impTurnedAway_any (Lib.hid rfl) (by omega) (Lib.hid rfl) (by omega) (Lib.hid rfl) (by omega) hr hr1 hr2)
  refine walked.mono fun e W' ⟨he, hb⟩ => ?_
  exact ⟨_, he, post_true (tb := 4) hW' rfl Try.underlying4 rfl rfl (by kernel_rfl) (by kernel_rfl) hb⟩
noncomputable def laidWorld (os : Os) : World := World.holding Try.prog os ⟨#[], #[], []⟩
theorem laid_met (os : Os) : laidMet Try.prog Rows.fnExactTurnedAwayRow.laid ((laidWorld os).forCall (fun _ _ => 0) ⟨#[], #[Value.slice none 0 0, Value.slice none 0 0, Value.slice none 0 0], []⟩).memory :=
  laidMet_of_run' 8 (by kernel_rfl) (by kernel_rfl)
theorem reads (os : Os) {H : Type} (enc : TypeId × Value → H) : ∃ places, DataW.whole enc Try.prog ((laidWorld os).forCall (fun _ _ => 0) ⟨#[], #[Value.slice none 0 0, Value.slice none 0 0, Value.slice none 0 0], []⟩).memory Try.f14.params.toList Rows.fnExactTurnedAwaySpec.vars false (#[Value.slice none 0 0, Value.slice none 0 0, Value.slice none 0 0]).toList 8 = some ([.nil, .nil, .nil], [], places) :=
  ⟨[], by kernel_rfl⟩
set_option maxRecDepth 100000 in
theorem lifted (os : Os) (started : os.Started) (H : Type) (enc : TypeId × Value → H) (F : Stop.Interp) :
    ReturnsInHanded {} Try.checked os 14 .any ((OpenSpec.ofChange Rows.fnExactTurnedAwaySpec).preRow enc Try.prog Try.f14 Rows.fnExactTurnedAwayRow.domain false Rows.fnExactTurnedAwayRow.laid) (((OpenSpec.ofChange Rows.fnExactTurnedAwaySpec).at F).post enc Try.prog Try.f14 false true false false) := by
  obtain ⟨places, hx⟩ := reads os enc
  refine returnsInHanded_of_row (C := Try.checked) (s := (OpenSpec.ofChange Rows.fnExactTurnedAwaySpec)) own started (by kernel_rfl) Try.func14
    (witness_row_at (enc := enc) (C := Try.checked) false (laidWorld os) #[Value.slice none 0 0, Value.slice none 0 0, Value.slice none 0 0] rfl (by kernel_rfl) (by kernel_rfl) (by kernel_rfl)
      (OpenSpec.preRow_of_cond 8 hx (by kernel_rfl) (fun k hk => by cases hk) (by kernel_rfl) (laid_met os))) ?_
  intro W base args ds gs before hval hW _ hcond hreach hL _ _
  exact contract H enc W base args ds gs before hval hW hL hreach
theorem said : Rows.FnExactTurnedAwaySaid :=
  OpenClaim.holds_of_cond 14 Try.f14 rfl rfl rfl rfl rfl rfl rfl ⟨rfl, rfl, rfl, rfl, rfl⟩ rfl rfl rfl rfl rfl (by kernel_rfl) Try.func14 (by kernel_rfl)
    (of_decide_eq_true (by kernel_rfl)) (by unfold Func.isWrapper; first | (rw [if_pos (by decide +kernel)]; kernel_rfl) | (rw [if_neg (by decide +kernel)]; exact ⟨rfl, rfl⟩))
    (fun os started H enc _ F => by rw [OpenClaim.pre_eq_preRow]; exact lifted os started H enc F)
#print axioms said
end Go.Proofs.Ytjjgdeojbpcjjaa.fnExactTurnedAway
