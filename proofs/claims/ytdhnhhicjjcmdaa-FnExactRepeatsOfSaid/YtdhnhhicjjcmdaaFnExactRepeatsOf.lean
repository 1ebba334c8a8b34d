/- Proves the given statement of the law 'FnExactRepeatsOf': at every input that the statement admits, the law returns true and leaves its arguments as they were. Conditions: those of the given row, no other. -/
import Derived.Test.YtdhnhhicjjcmdaaRows
import Derived.LaidHandle
import Derived.LaidLaws
import Derived.Stop.Joined
import Derived.Stop.LaidErr
import Derived.ChangeMaps5
import Derived.WalkKit
import Derived.ProofKit
import Derived.OpenShut
import Derived.Deep.DeepHandedRow
import Derived.Lib.LaidTab
import Derived.Deep.RegionHeld3
import Derived.Test.YtdhnhhicjjcmdaaBase
import Derived.Test.YtdhnhhicjjcmdaaSrcF
import Derived.Test.YtdhnhhicjjcmdaaSourceC
import Derived.Test.YtdhnhhicjjcmdaaIntSS
import Derived.Test.YtdhnhhicjjcmdaaOpen
import Derived.Test.YtdhnhhicjjcmdaaGraph
namespace Go.Proofs.Ytdhnhhicjjcmdaa.fnExactRepeatsOf
open Go.ChangeShapes Go.WideShapes Go.ChangeAt Go.RowKit
set_option linter.unusedVariables false
set_option maxRecDepth 100000
theorem own : ownKnob Try.prog.godebug = none := by kernel_rfl
theorem ucells : Try.prog.cellsOf 5 = 1 := by kernel_rfl
set_option maxHeartbeats 4000000 in
set_option maxRecDepth 100000 in
theorem core {W : World} {A0 : Option Addr} {c0 : Nat} {Y0 : List Src} (R0 : Rd W W.heap.size A0 (flE srcE Y0)) (hc0 : Y0.length ≤ c0) (hm0 : c0 ≤ maxLen) {a1 : Int} {r0 : List Int} (hr0 : r0.length ≤ 140000000)
    (hS : ∀ (w : World) (B0 : Option Addr) (d0 : Nat), Y0.length ≤ 1048576 → Y0.length ≤ d0 → d0 ≤ maxLen → Rd w w.heap.size B0 (flE srcE Y0) → Calls Try.prog 20 #[.slice B0 Y0.length d0, .int .i64 a1] w (fun e w' => ∃ v0 : Value, e = .returned (v0) ∧ Row w' w.heap.size w'.heap.size 3 v0 (ivs r0) ∧ Below w.heap.size w w'))
    (hI : ∀ (w : World) (B0 : Option Addr) (d0 : Nat), Y0.length ≤ 1048576 → Y0.length ≤ d0 → d0 ≤ maxLen → Rd w w.heap.size B0 (flE srcE Y0) → Calls Try.prog 21 #[.slice B0 Y0.length d0, .int .i64 a1] w (fun e w' => ∃ v0 : Value, e = .returned (v0) ∧ Row w' w.heap.size w'.heap.size 3 v0 (ivs r0) ∧ Below w.heap.size w w')) :
    Calls Try.prog 6 #[.slice A0 Y0.length c0, .int .i64 a1] W (fun e W' => e = .returned (.bool true) ∧ Below W.heap.size W W') := by
  have HS := Lib.hid hS
  have HI := Lib.hid hI
  clear hS hI
  have early : Below W.heap.size W W := (Below.refl _ _)
  clear early
  have B0 : Below W.heap.size W W := Below.refl _ _
  go_enter Try.func6, Try.ntmps6
  go_wp2_with fail
  refine (szSourceS_any (q := 1048576) (by unfold maxLen at hm0; omega) (by omega) (by omega)).mono ?_
  rintro e u0 ⟨rfl, rfl⟩
  by_cases hz0 : 1048576 < (Y0.length : Int)
  · rw [show szd 1048576 Y0.length = -1 by unfold szd; rw [if_pos (by omega)]]
    go_wp2_with fail
    go_ret
    exact ⟨rfl, B0⟩
  have hy0 : Y0.length ≤ 1048576 := by omega
  rw [show szd 1048576 Y0.length = 1048576 - (Y0.length : Int) by unfold szd; rw [if_neg (by omega)]]
  obtain ⟨r_0, hrr⟩ : ∃ r : Int, r = 1048576 - (Y0.length : Int) := ⟨_, rfl⟩
  rw [← hrr]
  have hq_0 : 0 ≤ r_0 ∧ r_0 ≤ 1048576 := by omega
  clear hrr hz0
  go_wp2_with fail
  refine (toSourceS_any (X := Y0) (Lib.hid rfl) (by omega) ((R0.below B0).more (by omega))).mono ?_
  rintro e w1 ⟨v, rfl, hr, hb⟩
  obtain ⟨E2, k2, rfl, _, hk2, hm2⟩ := hr.rd (n := Y0.length) rfl
  have s1 := hb.size
  have B1 := B0.trans (hb.mono B0.size)
  have Q_t1 := hr
  clear hr hb
  go_wp2_with fail
  refine ((HS.out w1 _ _ (by omega) (by omega) (by assumption) (Q_t1.rd'.more (by omega)))).mono ?_
  rintro e w2 ⟨v, rfl, hr, hb⟩
  obtain ⟨E3, k3, rfl, _, hk3, hm3⟩ := hr.rd (ivs_len r0)
  clear Q_t1
  have s2 := hb.size
  have B2 := B1.trans (hb.mono B1.size)
  have Q_w0 := hr
  clear hr
  clear hb
  go_wp2_with fail
  refine (toSourceS_any (X := Y0) (Lib.hid rfl) (by omega) ((R0.below B2).more (by omega))).mono ?_
  rintro e w3 ⟨v, rfl, hr, hb⟩
  obtain ⟨E4, k4, rfl, _, hk4, hm4⟩ := hr.rd (n := Y0.length) rfl
  have s3 := hb.size
  replace Q_w0 := Q_w0.new hb
  have B3 := B2.trans (hb.mono B2.size)
  have Q_x0 := hr
  clear hr hb
  go_wp2_with fail
  refine ((HI.out w3 _ _ (by omega) (by omega) (by assumption) (Q_x0.rd'.more (by omega)))).mono ?_
  rintro e w4 ⟨v, rfl, hr, hb⟩
  obtain ⟨E5, k5, rfl, _, hk5, hm5⟩ := hr.rd (ivs_len r0)
  have s4 := hb.size
  replace Q_w0 := Q_w0.new hb
  replace Q_x0 := Q_x0.new hb
  have B4 := B3.trans (hb.mono B3.size)
  have Q_g0 := hr
  clear hr
  clear hb
  go_wp2_with fail
  refine (eqIntS_any (zs := r0) (ys := r0) (Lib.hid rfl) (Lib.hid rfl) (by omega) (by omega) (Q_g0.rd'.more (by omega)) (Q_w0.rd'.more (by omega))).mono ?_
  rintro e w5 ⟨he, hb⟩
  rw [show decide (r0 = r0) = true from decide_eq_true rfl] at he
  subst he
  have s5 := hb.size
  replace Q_w0 := Q_w0.new hb
  replace Q_x0 := Q_x0.new hb
  replace Q_g0 := Q_g0.new hb
  have B5 := B4.trans (hb.mono B4.size)
  clear hb
  go_wp2_with fail
  refine (toSourceS_any (X := Y0) (Lib.hid rfl) (by omega) ((R0.below B5).more (by omega))).mono ?_
  rintro e w6 ⟨v, rfl, hr, hb⟩
  obtain ⟨E7, k7, rfl, _, hk7, hm7⟩ := hr.rd (n := Y0.length) rfl
  have s6 := hb.size
  replace Q_w0 := Q_w0.new hb
  replace Q_x0 := Q_x0.new hb
  replace Q_g0 := Q_g0.new hb
  have B6 := B5.trans (hb.mono B5.size)
  have Q_t6 := hr
  clear hr hb
  go_wp2_with fail
  refine (eqSourceS_any (X := Y0) (Y := Y0) (Lib.hid rfl) (Lib.hid rfl) (by omega) (by omega) (Q_x0.rd'.more (by omega)) (Q_t6.rd'.more (by omega))).mono ?_
  rintro e w7 ⟨he, hb⟩
  rw [show decide (Y0 = Y0) = true from decide_eq_true rfl] at he
  subst he
  clear Q_t6
  have s7 := hb.size
  replace Q_w0 := Q_w0.new hb
  replace Q_x0 := Q_x0.new hb
  replace Q_g0 := Q_g0.new hb
  have B7 := B6.trans (hb.mono B6.size)
  clear hb
  go_wp2_with fail
  refine (markSourceS_any (n := Y0.length) (q := 1) (Lib.hid rfl) (by omega) (by omega) (by omega) Q_x0).mono ?_
  rintro e w8 ⟨rfl, hr, ho⟩
  have s8 := ho.size
  replace Q_w0 := Q_w0.out ho (by omega)
  replace Q_g0 := Q_g0.out ho (by omega)
  have B8 := B7.trans (ho.below (by omega) (by omega))
  replace Q_x0 := hr
  clear hr ho
  go_wp2_with fail
  refine (eqIntS_any (zs := r0) (ys := r0) (Lib.hid rfl) (Lib.hid rfl) (by omega) (by omega) (Q_g0.rd'.more (by omega)) (Q_w0.rd'.more (by omega))).mono ?_
  rintro e w9 ⟨he, hb⟩
  rw [show decide (r0 = r0) = true from decide_eq_true rfl] at he
  subst he
  have s9 := hb.size
  replace Q_w0 := Q_w0.new hb
  replace Q_x0 := Q_x0.new hb
  replace Q_g0 := Q_g0.new hb
  have B9 := B8.trans (hb.mono B8.size)
  clear hb
  go_wp2_with fail
  refine (markIntS_any (q := 1) (Lib.hid (ivs_len r0)) (by omega) (by omega) (by omega) Q_g0).mono ?_
  rintro e w10 ⟨rfl, hr, ho⟩
  have s10 := ho.size
  replace Q_w0 := Q_w0.out ho (by omega)
  replace Q_x0 := Q_x0.out ho (by omega)
  have B10 := B9.trans (ho.below (by omega) (by omega))
  replace Q_g0 := hr
  clear hr ho
  go_wp2_with fail
  refine (heldIntS_any (n := r0.length) (q := 1) (by omega) (by omega) (by omega) (Q_g0.rd'.more (by omega))).mono ?_
  rintro e w11 ⟨rfl, rfl⟩
  go_wp2_with fail
  refine (toSourceS_any (X := Y0) (Lib.hid rfl) (by omega) ((R0.below B10).more (by omega))).mono ?_
  rintro e w11 ⟨v, rfl, hr, hb⟩
  obtain ⟨E9, k9, rfl, _, hk9, hm9⟩ := hr.rd (n := Y0.length) rfl
  have s11 := hb.size
  replace Q_w0 := Q_w0.new hb
  replace Q_x0 := Q_x0.new hb
  replace Q_g0 := Q_g0.new hb
  have B11 := B10.trans (hb.mono B10.size)
  have Q_t8 := hr
  clear hr hb
  go_wp2_with fail
  refine ((HI.out w11 _ _ (by omega) (by omega) (by assumption) (Q_t8.rd'.more (by omega)))).mono ?_
  rintro e w12 ⟨v, rfl, hr, hb⟩
  obtain ⟨E10, k10, rfl, _, hk10, hm10⟩ := hr.rd (ivs_len r0)
  clear Q_t8
  have s12 := hb.size
  replace Q_w0 := Q_w0.new hb
  replace Q_x0 := Q_x0.new hb
  replace Q_g0 := Q_g0.new hb
  have B12 := B11.trans (hb.mono B11.size)
  have Q_h0 := hr
  clear hr
  clear hb
  go_wp2_with fail
  refine (eqIntS_any (zs := r0) (ys := r0) (Lib.hid rfl) (Lib.hid rfl) (by omega) (by omega) (Q_h0.rd'.more (by omega)) (Q_w0.rd'.more (by omega))).mono ?_
  rintro e w13 ⟨he, hb⟩
  rw [show decide (r0 = r0) = true from decide_eq_true rfl] at he
  subst he
  have s13 := hb.size
  replace Q_w0 := Q_w0.new hb
  replace Q_x0 := Q_x0.new hb
  replace Q_g0 := Q_g0.new hb
  replace Q_h0 := Q_h0.new hb
  have B13 := B12.trans (hb.mono B12.size)
  clear hb
  go_wp2_with fail
  refine (heldIntS_any (n := r0.length) (q := 1) (by omega) (by omega) (by omega) (Q_g0.rd'.more (by omega))).mono ?_
  rintro e w14 ⟨rfl, rfl⟩
  go_wp2_with fail
  go_ret
  exact ⟨rfl, B13⟩
theorem contract (H : Type) (enc : TypeId × Value → H) (W : World) (base : Nat) (args : Array Value) (ds gs : List (DataW H)) (before : List MemPlace)
    (hval : ∀ (j : Nat) t v, Try.f6.params[j]? = some t → args[j]? = some v → Value.okWide Try.prog W .any base t v)
    (hW : DataW.Whole enc Try.prog Try.f6.params.toList Rows.fnExactRepeatsOfSpec.vars false W args.toList ds gs before) (hL : laidMetH Try.prog Rows.fnExactRepeatsOfRow.laid W)
    (hreach : (DataW.weightsEach Try.prog (Try.f6.params.toList ++ (OpenSpec.ofChange Rows.fnExactRepeatsOfSpec).bare.plain.varTypes Try.prog) (ds ++ gs)).all (· ≤ reachBytes) = true) :
    Calls Try.prog 6 args W fun e W' => ∃ v, e = .returned v ∧ Rows.fnExactRepeatsOfSpec.post enc Try.prog Try.f6 false true false false W args v W' := by
  have hW' := hW
  obtain ⟨p, q, hA0, hV, rfl, hfz, hnd⟩ := hW
  have hA : DataW.TrodAll enc Try.prog W 0 (fun _ => true) true Try.f6.params.toList args.toList ds p := hA0
  rw [Try.params6] at hA hval
  obtain ⟨v0, vs0, d0, ds0, p0, q0, hargs, rfl, rfl, h0, r0⟩ := trodAll_cons hA
  obtain ⟨v1, vs1, d1, ds1, p1, q1, rfl, rfl, rfl, h1, r1⟩ := trodAll_cons r0
  obtain ⟨rfl, rfl, rfl⟩ := trodAll_nil r1
  obtain rfl : args = #[v0, v1] := by cases args; simp_all
  obtain ⟨rfl, rfl⟩ := trodVars_none hV
  obtain ⟨A0, c0, Y0, rfl, R0, hc0, hm0⟩ := slice_openG srcE Try.underlying22 (by kernel_rfl : Try.prog.cellsOf 37 = 4) (src_el Try.underlying37 rfl rfl rfl rfl Try.underlying3 Try.underlying3 Try.underlying3 Try.underlying4 (by kernel_rfl) (by kernel_rfl) (by kernel_rfl) (by kernel_rfl)) (hval 0 22 v0 rfl rfl) h0
  obtain ⟨a1, rfl, rfl, rfl, w1⟩ := open_int Try.underlying3 (hval 1 3 v1 rfl rfl) h1
  clear hA0 hval
  have walked : Calls Try.prog 6 #[.slice A0 Y0.length c0, .int .i64 a1] W fun e W' => e = .returned (.bool true) ∧ Below W.heap.size W W' := by
    exact core (r0 := if Y0.length ≤ 1048576 then rptL Y0 a1 else []) R0 hc0 hm0 (by split; (have h1 := rpt_len Y0 a1 Y0.length; unfold rptL; split; omega; simp); simp) (fun w B d hz hd hm hr => by rw [if_pos hz]; exact specRepeatsOf_any (Lib.hid rfl) (by omega) hd hr) (fun w B d hz hd hm hr => by rw [if_pos hz]; exact impRepeatsOf_any (Lib.hid rfl) (by omega) hr)
  refine walked.mono fun e W' ⟨he, hb⟩ => ?_
  exact ⟨_, he, post_true (tb := 4) hW' rfl Try.underlying4 rfl rfl (by kernel_rfl) (by kernel_rfl) hb⟩
noncomputable def laidWorld (os : Os) : World := World.holding Try.prog os ⟨#[], #[], []⟩
theorem laid_met (os : Os) : laidMet Try.prog Rows.fnExactRepeatsOfRow.laid ((laidWorld os).forCall (fun _ _ => 0) ⟨#[], #[Value.slice none 0 0, Value.int .i64 0], []⟩).memory :=
  laidMet_of_run' 8 (by kernel_rfl) (by kernel_rfl)
theorem reads (os : Os) {H : Type} (enc : TypeId × Value → H) : ∃ places, DataW.whole enc Try.prog ((laidWorld os).forCall (fun _ _ => 0) ⟨#[], #[Value.slice none 0 0, Value.int .i64 0], []⟩).memory Try.f6.params.toList Rows.fnExactRepeatsOfSpec.vars false (#[Value.slice none 0 0, Value.int .i64 0]).toList 8 = some ([.nil, .lit (.int .i64 0)], [], places) :=
  ⟨[], by kernel_rfl⟩
set_option maxRecDepth 100000 in
theorem lifted (os : Os) (started : os.Started) (H : Type) (enc : TypeId × Value → H) (F : Stop.Interp) :
    ReturnsInHanded {} Try.checked os 6 .any ((OpenSpec.ofChange Rows.fnExactRepeatsOfSpec).preRow enc Try.prog Try.f6 Rows.fnExactRepeatsOfRow.domain false Rows.fnExactRepeatsOfRow.laid) (((OpenSpec.ofChange Rows.fnExactRepeatsOfSpec).at F).post enc Try.prog Try.f6 false true false false) := by
  obtain ⟨places, hx⟩ := reads os enc
  refine returnsInHanded_of_row (C := Try.checked) (s := (OpenSpec.ofChange Rows.fnExactRepeatsOfSpec)) own started (by kernel_rfl) Try.func6
    (witness_row_at (enc := enc) (C := Try.checked) false (laidWorld os) #[Value.slice none 0 0, Value.int .i64 0] rfl (by kernel_rfl) (by kernel_rfl) (by kernel_rfl)
      (OpenSpec.preRow_of_cond 8 hx (by kernel_rfl) (fun k hk => by cases hk) (by kernel_rfl) (laid_met os))) ?_
  intro W base args ds gs before hval hW _ hcond hreach hL _ _
  exact contract H enc W base args ds gs before hval hW hL hreach
theorem said : Rows.FnExactRepeatsOfSaid :=
  OpenClaim.holds_of_cond 6 Try.f6 rfl rfl rfl rfl rfl rfl rfl ⟨rfl, rfl, rfl, rfl, rfl⟩ rfl rfl rfl rfl rfl (by kernel_rfl) Try.func6 (by kernel_rfl)
    (of_decide_eq_true (by kernel_rfl)) (by unfold Func.isWrapper; first | (rw [if_pos (by decide +kernel)]; kernel_rfl) | (rw [if_neg (by decide +kernel)]; exact ⟨rfl, rfl⟩))
    (fun os started H enc _ F => by rw [OpenClaim.pre_eq_preRow]; exact lifted os started H enc F)
#print axioms said
end Go.Proofs.Ytdhnhhicjjcmdaa.fnExactRepeatsOf
