/- Proves the given statement of the law 'FnExactReply': at every input that the statement admits, the law returns true and leaves its arguments as they were. Conditions: those of the given row, no other. -/
import Derived.Test.YtignchefkihdaaaRows
import Derived.LaidHandle
import Derived.LaidLaws
import Derived.Stop.Joined
import Derived.Stop.LaidErr
import Derived.ChangeMaps5
import Derived.WalkKit
import Derived.ProofKit
import Derived.OpenShut
import Derived.Deep.DeepHandedRow
import Derived.Lib.LaidTab
import Derived.Deep.RegionHeld3
import Derived.Test.YtignchefkihdaaaBase
import Derived.Test.YtignchefkihdaaaRepC
import Derived.Test.YtignchefkihdaaaRepM
import Derived.Test.YtignchefkihdaaaRaiC
import Derived.Test.YtignchefkihdaaaPointB
import Derived.Test.YtignchefkihdaaaPointC
import Derived.Test.YtignchefkihdaaaOpen3
namespace Go.Proofs.Ytignchefkihdaaa.fnExactReply
open Go.ChangeShapes Go.WideShapes Go.ChangeAt Go.RowKit
set_option linter.unusedVariables false
set_option maxRecDepth 100000
theorem own : ownKnob Try.prog.godebug = none := by kernel_rfl
theorem ucells : Try.prog.cellsOf 5 = 1 := by kernel_rfl
set_option maxHeartbeats 4000000 in
set_option maxRecDepth 100000 in
theorem core {W : World} {A0 : Option Addr} {c0 : Nat} {Y0 : List T3} (R0 : Rd W W.heap.size A0 (t3s Y0)) (hc0 : Y0.length ≤ c0) (hm0 : c0 ≤ maxLen) {a1 : Int} {a2 : Int} {a3 : Int} {r0 : List T3} (hr0 : r0.length ≤ 14000000) {x1 : Bool}
    (hS : ∀ (w : World) (B0 : Option Addr) (d0 : Nat), Y0.length ≤ 1048576 → Y0.length ≤ d0 → d0 ≤ maxLen → Rd w w.heap.size B0 (t3s Y0) → Calls Try.prog 60 #[.slice B0 Y0.length d0, .int .i64 a1, .int .i64 a2, .int .i64 a3] w (fun e w' => ∃ v0 : Value, e = .returned (.tuple #[v0, .bool x1]) ∧ Row3 w' w.heap.size w'.heap.size 48 v0 r0 ∧ Below w.heap.size w w'))
    (hI : ∀ (w : World) (B0 : Option Addr) (d0 : Nat), Y0.length ≤ 1048576 → Y0.length ≤ d0 → d0 ≤ maxLen → Rd w w.heap.size B0 (t3s Y0) → Calls Try.prog 26 #[.slice B0 Y0.length d0, .int .i64 a1, .int .i64 a2, .int .i64 a3] w (fun e w' => ∃ v0 : Value, e = .returned (.tuple #[v0, .bool x1]) ∧ Row3 w' w.heap.size w'.heap.size 48 v0 r0 ∧ Below w.heap.size w w')) :
    Calls Try.prog 8 #[.slice A0 Y0.length c0, .int .i64 a1, .int .i64 a2, .int .i64 a3] W (fun e W' => e = .returned (.bool true) ∧ Below W.heap.size W W') := by
  have HS := Lib.hid hS
  have HI := Lib.hid hI
  clear hS hI
  have early : Below W.heap.size W W := (Below.refl _ _)
  clear early
  have B0 : Below W.heap.size W W := Below.refl _ _
  go_enter Try.func8, Try.ntmps8
  go_wp2_with fail
  refine (szPointS_any (q := 1048576) (by unfold maxLen at hm0; omega) (by omega) (by omega)).mono ?_
  rintro e u0 ⟨rfl, rfl⟩
  by_cases hz0 : 1048576 < (Y0.length : Int)
  · rw [show szd 1048576 Y0.length = -1 by unfold szd; rw [if_pos (by omega)]]
    go_wp2_with fail
    go_ret
    exact ⟨rfl, B0⟩
  have hy0 : Y0.length ≤ 1048576 := by omega
  rw [show szd 1048576 Y0.length = 1048576 - (Y0.length : Int) by unfold szd; rw [if_neg (by omega)]]
  obtain ⟨r_0, hrr⟩ : ∃ r : Int, r = 1048576 - (Y0.length : Int) := ⟨_, rfl⟩
  rw [← hrr]
  have hq_0 : 0 ≤ r_0 ∧ r_0 ≤ 1048576 := by omega
  clear hrr hz0
  go_wp2_with fail
  refine (toPointS_any (X := Y0) (Lib.hid rfl) (by omega) ((R0.below B0).more (by omega))).mono ?_
  rintro e w1 ⟨v, rfl, hr, hb⟩
  obtain ⟨E2, k2, rfl, _, hk2, hm2⟩ := hr.rd (n := Y0.length) rfl
  have s1 := hb.size
  have B1 := B0.trans (hb.mono B0.size)
  have Q_t1 := hr
  clear hr hb
  go_wp2_with fail
  refine ((HS.out w1 _ _ (by omega) (by omega) (by assumption) (Q_t1.rd'.more (by omega)))).mono ?_
  rintro e w2 ⟨v, rfl, hr, hb⟩
  obtain ⟨E3, k3, rfl, _, hk3, hm3⟩ := hr.rd (n := r0.length) rfl
  clear Q_t1
  have s2 := hb.size
  have B2 := B1.trans (hb.mono B1.size)
  have Q_w0 := hr
  clear hr
  clear hb
  go_wp2_with fail
  refine (toPointS_any (X := Y0) (Lib.hid rfl) (by omega) ((R0.below B2).more (by omega))).mono ?_
  rintro e w3 ⟨v, rfl, hr, hb⟩
  obtain ⟨E4, k4, rfl, _, hk4, hm4⟩ := hr.rd (n := Y0.length) rfl
  have s3 := hb.size
  replace Q_w0 := Q_w0.new hb
  have B3 := B2.trans (hb.mono B2.size)
  have Q_x0 := hr
  clear hr hb
  go_wp2_with fail
  refine ((HI.out w3 _ _ (by omega) (by omega) (by assumption) (Q_x0.rd'.more (by omega)))).mono ?_
  rintro e w4 ⟨v, rfl, hr, hb⟩
  obtain ⟨E5, k5, rfl, _, hk5, hm5⟩ := hr.rd (n := r0.length) rfl
  have s4 := hb.size
  replace Q_w0 := Q_w0.new hb
  replace Q_x0 := Q_x0.new hb
  have B4 := B3.trans (hb.mono B3.size)
  have Q_g0 := hr
  clear hr
  clear hb
  go_wp2_with fail
  refine (eqPointS_any (X := r0) (Y := r0) (Lib.hid rfl) (Lib.hid rfl) (by omega) (by omega) (Q_g0.rd'.more (by omega)) (Q_w0.rd'.more (by omega))).mono ?_
  rintro e w5 ⟨he, hb⟩
  rw [show decide (r0 = r0) = true from decide_eq_true rfl] at he
  subst he
  have s5 := hb.size
  replace Q_w0 := Q_w0.new hb
  replace Q_x0 := Q_x0.new hb
  replace Q_g0 := Q_g0.new hb
  have B5 := B4.trans (hb.mono B4.size)
  clear hb
  go_wp2_with fail
  refine (toPointS_any (X := Y0) (Lib.hid rfl) (by omega) ((R0.below B5).more (by omega))).mono ?_
  rintro e w6 ⟨v, rfl, hr, hb⟩
  obtain ⟨E7, k7, rfl, _, hk7, hm7⟩ := hr.rd (n := Y0.length) rfl
  have s6 := hb.size
  replace Q_w0 := Q_w0.new hb
  replace Q_x0 := Q_x0.new hb
  replace Q_g0 := Q_g0.new hb
  have B6 := B5.trans (hb.mono B5.size)
  have Q_t6 := hr
  clear hr hb
  go_wp2_with fail
  refine (eqPointS_any (X := Y0) (Y := Y0) (Lib.hid rfl) (Lib.hid rfl) (by omega) (by omega) (Q_x0.rd'.more (by omega)) (Q_t6.rd'.more (by omega))).mono ?_
  rintro e w7 ⟨he, hb⟩
  rw [show decide (Y0 = Y0) = true from decide_eq_true rfl] at he
  subst he
  clear Q_t6
  have s7 := hb.size
  replace Q_w0 := Q_w0.new hb
  replace Q_x0 := Q_x0.new hb
  replace Q_g0 := Q_g0.new hb
  have B7 := B6.trans (hb.mono B6.size)
  clear hb
  go_wp2_with fail
  refine (markPointS_any (n := Y0.length) (q := 1) (Lib.hid rfl) (by omega) (by omega) (by omega) Q_x0).mono ?_
  rintro e w8 ⟨rfl, hr, ho⟩
  have s8 := ho.size
  replace Q_w0 := Q_w0.out ho (by omega)
  replace Q_g0 := Q_g0.out ho (by omega)
  have B8 := B7.trans (ho.below (by omega) (by omega))
  replace Q_x0 := hr
  clear hr ho
  go_wp2_with fail
  refine (eqPointS_any (X := r0) (Y := r0) (Lib.hid rfl) (Lib.hid rfl) (by omega) (by omega) (Q_g0.rd'.more (by omega)) (Q_w0.rd'.more (by omega))).mono ?_
  rintro e w9 ⟨he, hb⟩
  rw [show decide (r0 = r0) = true from decide_eq_true rfl] at he
  subst he
  have s9 := hb.size
  replace Q_w0 := Q_w0.new hb
  replace Q_x0 := Q_x0.new hb
  replace Q_g0 := Q_g0.new hb
  have B9 := B8.trans (hb.mono B8.size)
  clear hb
  go_wp2_with fail
  refine (markPointS_any (n := r0.length) (q := 1) (Lib.hid rfl) (by omega) (by omega) (by omega) Q_g0).mono ?_
  rintro e w10 ⟨rfl, hr, ho⟩
  have s10 := ho.size
  replace Q_w0 := Q_w0.out ho (by omega)
  replace Q_x0 := Q_x0.out ho (by omega)
  have B10 := B9.trans (ho.below (by omega) (by omega))
  replace Q_g0 := hr
  clear hr ho
  go_wp2_with fail
  refine (heldPointS_any (n := r0.length) (q := 1) (by omega) (by omega) (by omega) (Q_g0.rd'.more (by omega))).mono ?_
  rintro e w11 ⟨rfl, rfl⟩
  go_wp2_with fail
  refine (toPointS_any (X := Y0) (Lib.hid rfl) (by omega) ((R0.below B10).more (by omega))).mono ?_
  rintro e w11 ⟨v, rfl, hr, hb⟩
  obtain ⟨E9, k9, rfl, _, hk9, hm9⟩ := hr.rd (n := Y0.length) rfl
  have s11 := hb.size
  replace Q_w0 := Q_w0.new hb
  replace Q_x0 := Q_x0.new hb
  replace Q_g0 := Q_g0.new hb
  have B11 := B10.trans (hb.mono B10.size)
  have Q_t8 := hr
  clear hr hb
  go_wp2_with fail
  refine ((HI.out w11 _ _ (by omega) (by omega) (by assumption) (Q_t8.rd'.more (by omega)))).mono ?_
  rintro e w12 ⟨v, rfl, hr, hb⟩
  obtain ⟨E10, k10, rfl, _, hk10, hm10⟩ := hr.rd (n := r0.length) rfl
  clear Q_t8
  have s12 := hb.size
  replace Q_w0 := Q_w0.new hb
  replace Q_x0 := Q_x0.new hb
  replace Q_g0 := Q_g0.new hb
  have B12 := B11.trans (hb.mono B11.size)
  have Q_h0 := hr
  clear hr
  clear hb
  go_wp2_with fail
  refine (eqPointS_any (X := r0) (Y := r0) (Lib.hid rfl) (Lib.hid rfl) (by omega) (by omega) (Q_h0.rd'.more (by omega)) (Q_w0.rd'.more (by omega))).mono ?_
  rintro e w13 ⟨he, hb⟩
  rw [show decide (r0 = r0) = true from decide_eq_true rfl] at he
  subst he
  have s13 := hb.size
  replace Q_w0 := Q_w0.new hb
  replace Q_x0 := Q_x0.new hb
  replace Q_g0 := Q_g0.new hb
  replace Q_h0 := Q_h0.new hb
  have B13 := B12.trans (hb.mono B12.size)
  clear hb
  go_wp2_with fail
  refine (heldPointS_any (n := r0.length) (q := 1) (by omega) (by omega) (by omega) (Q_g0.rd'.more (by omega))).mono ?_
  rintro e w14 ⟨rfl, rfl⟩
  go_wp2_with fail
  go_ret
  exact ⟨rfl, B13⟩
theorem contract (H : Type) (enc : TypeId × Value → H) (W : World) (base : Nat) (args : Array Value) (ds gs : List (DataW H)) (before : List MemPlace)
    (hval : ∀ (j : Nat) t v, Try.f8.params[j]? = some t → args[j]? = some v → Value.okWide Try.prog W .any base t v)
    (hW : DataW.Whole enc Try.prog Try.f8.params.toList Rows.fnExactReplySpec.vars false W args.toList ds gs before) (hL : laidMetH Try.prog Rows.fnExactReplyRow.laid W)
    (hreach : (DataW.weightsEach Try.prog (Try.f8.params.toList ++ (OpenSpec.ofChange Rows.fnExactReplySpec).bare.plain.varTypes Try.prog) (ds ++ gs)).all (· ≤ reachBytes) = true) :
    Calls Try.prog 8 args W fun e W' => ∃ v, e = .returned v ∧ Rows.fnExactReplySpec.post enc Try.prog Try.f8 false true false false W args v W' := by
  have hW' := hW
  obtain ⟨p, q, hA0, hV, rfl, hfz, hnd⟩ := hW
  have hA : DataW.TrodAll enc Try.prog W 0 (fun _ => true) true Try.f8.params.toList args.toList ds p := hA0
  rw [Try.params8] at hA hval
  obtain ⟨v0, vs0, d0, ds0, p0, q0, hargs, rfl, rfl, h0, r0⟩ := trodAll_cons hA
  obtain ⟨v1, vs1, d1, ds1, p1, q1, rfl, rfl, rfl, h1, r1⟩ := trodAll_cons r0
  obtain ⟨v2, vs2, d2, ds2, p2, q2, rfl, rfl, rfl, h2, r2⟩ := trodAll_cons r1
  obtain ⟨v3, vs3, d3, ds3, p3, q3, rfl, rfl, rfl, h3, r3⟩ := trodAll_cons r2
  obtain ⟨rfl, rfl, rfl⟩ := trodAll_nil r3
  obtain rfl : args = #[v0, v1, v2, v3] := by cases args; simp_all
  obtain ⟨rfl, rfl⟩ := trodVars_none hV
  obtain ⟨A0, c0, Y0, rfl, R0, hc0, hm0, hb0⟩ := slice_open3 Try.underlying73 Try.underlying133 (by kernel_rfl : Try.prog.cellsOf 133 = 3) rfl rfl rfl Try.underlying3 Try.underlying3 Try.underlying3 (by kernel_rfl) (by kernel_rfl) (by kernel_rfl) (hval 0 73 v0 rfl rfl) h0
  obtain ⟨a1, rfl, rfl, rfl, w1⟩ := open_int Try.underlying3 (hval 1 3 v1 rfl rfl) h1
  obtain ⟨a2, rfl, rfl, rfl, w2⟩ := open_int Try.underlying3 (hval 2 3 v2 rfl rfl) h2
  obtain ⟨a3, rfl, rfl, rfl, w3⟩ := open_int Try.underlying3 (hval 3 3 v3 rfl rfl) h3
  clear hA0 hval
  have walked : Calls Try.prog 8 #[.slice A0 Y0.length c0, .int .i64 a1, .int .i64 a2, .int .i64 a3] W fun e W' => e = .returned (.bool true) ∧ Below W.heap.size W W' := by
    exact core (r0 := cutL Y0 (repL Y0 a1 a2 a3)) (x1 := (repI Y0 a1 a2 a3).isSome) R0 hc0 hm0 (cutL_len (by have := rep_len Y0 a1 a2 a3; omega)) (fun w B d hz hd hm hr => by rw [cutL_eq hz]; exact specReply_any (Lib.hid rfl) (by omega) hr) (fun w B d hz hd hm hr => by rw [cutL_eq hz]; exact impReply_any (Lib.hid rfl) (by omega) hr)
  refine walked.mono fun e W' ⟨he, hb⟩ => ?_
  exact ⟨_, he, post_true (tb := 4) hW' rfl Try.underlying4 rfl rfl (by kernel_rfl) (by kernel_rfl) hb⟩
noncomputable def laidWorld (os : Os) : World := World.holding Try.prog os ⟨#[], #[], []⟩
theorem laid_met (os : Os) : laidMet Try.prog Rows.fnExactReplyRow.laid ((laidWorld os).forCall (fun _ _ => 0) ⟨#[], #[Value.slice none 0 0, Value.int .i64 0, Value.int .i64 0, Value.int .i64 0], []⟩).memory :=
  laidMet_of_run' 8 (by kernel_rfl) (by kernel_rfl)
theorem reads (os : Os) {H : Type} (enc : TypeId × Value → H) : ∃ places, DataW.whole enc Try.prog ((laidWorld os).forCall (fun _ _ => 0) ⟨#[], #[Value.slice none 0 0, Value.int .i64 0, Value.int .i64 0, Value.int .i64 0], []⟩).memory Try.f8.params.toList Rows.fnExactReplySpec.vars false (#[Value.slice none 0 0, Value.int .i64 0, Value.int .i64 0, Value.int .i64 0]).toList 8 = some ([.nil, .lit (.int .i64 0), .lit (.int .i64 0), .lit (.int .i64 0)], [], places) :=
  ⟨[], by kernel_rfl⟩
set_option maxRecDepth 100000 in
theorem lifted (os : Os) (started : os.Started) (H : Type) (enc : TypeId × Value → H) (F : Stop.Interp) :
    ReturnsInHanded {} Try.checked os 8 .any ((OpenSpec.ofChange Rows.fnExactReplySpec).preRow enc Try.prog Try.f8 Rows.fnExactReplyRow.domain false Rows.fnExactReplyRow.laid) (((OpenSpec.ofChange Rows.fnExactReplySpec).at F).post enc Try.prog Try.f8 false true false false) := by
  obtain ⟨places, hx⟩ := reads os enc
  refine returnsInHanded_of_row (C := Try.checked) (s := (OpenSpec.ofChange Rows.fnExactReplySpec)) own started (by kernel_rfl) Try.func8
    (witness_row_at (enc := enc) (C := Try.checked) false (laidWorld os) #[Value.slice none 0 0, Value.int .i64 0, Value.int .i64 0, Value.int .i64 0] rfl (by kernel_rfl) (by kernel_rfl) (by kernel_rfl)
      (OpenSpec.preRow_of_cond 8 hx (by kernel_rfl) (fun k hk => by cases hk) (by kernel_rfl) (laid_met os))) ?_
  intro W base args ds gs before hval hW _ hcond hreach hL _ _
  exact contract H enc W base args ds gs before hval hW hL hreach
theorem said : Rows.FnExactReplySaid :=
  OpenClaim.holds_of_cond 8 Try.f8 rfl rfl rfl rfl rfl rfl rfl ⟨rfl, rfl, rfl, rfl, rfl⟩ rfl rfl rfl rfl rfl (by kernel_rfl) Try.func8 (by kernel_rfl)
    (of_decide_eq_true (by kernel_rfl)) (by unfold Func.isWrapper; first | (rw [if_pos (by decide +kernel)]; kernel_rfl) | (rw [if_neg (by decide +kernel)]; exact ⟨rfl, rfl⟩))
    (fun os started H enc _ F => by rw [OpenClaim.pre_eq_preRow]; exact lifted os started H enc F)
#print axioms said
end Go.Proofs.Ytignchefkihdaaa.fnExactReply
