/- Proves the given statement of the law 'FnExactBellsAt': at every input that the statement admits, the law returns true and leaves its arguments as they were. Conditions: those of the given row, no other. -/
import Derived.Test.YtamocldcfbjfgaaRows
import Derived.LaidHandle
import Derived.LaidLaws
import Derived.Stop.Joined
import Derived.Stop.LaidErr
import Derived.ChangeMaps5
import Derived.WalkKit
import Derived.ProofKit
import Derived.OpenShut
import Derived.Deep.DeepHandedRow
import Derived.Lib.LaidTab
import Derived.Deep.RegionHeld3
import Derived.Test.YtamocldcfbjfgaaBase
import Derived.Test.YtamocldcfbjfgaaSlotC3
import Derived.Test.YtamocldcfbjfgaaSlotM3
import Derived.Test.YtamocldcfbjfgaaSlotB
import Derived.Test.YtamocldcfbjfgaaOpen3
import Derived.Test.YtamocldcfbjfgaaOpen
import Derived.Test.YtamocldcfbjfgaaGraph
namespace Go.Proofs.Ytamocldcfbjfgaa.fnExactBellsAt
open Go.ChangeShapes Go.WideShapes Go.ChangeAt Go.RowKit
set_option linter.unusedVariables false
set_option maxRecDepth 100000
theorem own : ownKnob Try.prog.godebug = none := by kernel_rfl
theorem ucells : Try.prog.cellsOf 5 = 1 := by kernel_rfl
set_option maxHeartbeats 4000000 in
set_option maxRecDepth 100000 in
theorem core {W : World} {p : T3} {r0 : List Int} (hr0 : r0.length ≤ 140000000)
    (hS : ∀ w : World, Calls Try.prog 25 #[Value.agg #[.int .i64 p.1, .int .i64 p.2.1, .int .i64 p.2.2]] w (fun e w' => ∃ v0 : Value, e = .returned (v0) ∧ Row w' w.heap.size w'.heap.size 3 v0 (ivs r0) ∧ Below w.heap.size w w'))
    (hI : ∀ w : World, Calls Try.prog 26 #[Value.agg #[.int .i64 p.1, .int .i64 p.2.1, .int .i64 p.2.2]] w (fun e w' => ∃ v0 : Value, e = .returned (v0) ∧ Row w' w.heap.size w'.heap.size 3 v0 (ivs r0) ∧ Below w.heap.size w w')) :
    Calls Try.prog 7 #[Value.agg #[.int .i64 p.1, .int .i64 p.2.1, .int .i64 p.2.2]] W (fun e W' => e = .returned (.bool true) ∧ Below W.heap.size W W') := by
  have HS := Lib.hid hS
  have HI := Lib.hid hI
  clear hS hI
  obtain ⟨w0, hW, bx, B0, hz⟩ := box3 W 23 (.int .i64 p.1) (.int .i64 p.2.1) (.int .i64 p.2.2)
  have s0 := B0.size
  have HW := Lib.hid hW
  have HX := Lib.hid bx
  obtain ⟨C0, C1, C2⟩ := bx.cells3 (Below.refl _ _)
  have Q0 : Below w0.heap.size w0 w0 := Below.refl _ _
  clear hW hz bx
  go_enter Try.func7, Try.ntmps7
  go_wp2_with fail
  rw [HW.out]
  try (go_wp2_with fail)
  refine (toSlot_any).mono ?_
  rintro e w1 ⟨rfl, hb⟩
  have s1 := hb.size
  have B1 := B0.trans (hb.mono B0.size)
  have Q1 := Q0.trans (hb.mono Q0.size)
  clear hb
  clear C0 C1 C2
  obtain ⟨C0, C1, C2⟩ := HX.out.cells3 Q1
  go_wp2_with fail
  refine ((HS).out w1).mono ?_
  rintro e w2 ⟨v, rfl, hr, hb⟩
  obtain ⟨E1, k1, rfl, _, hk1, hm1⟩ := hr.rd (ivs_len r0)
  have s2 := hb.size
  have B2 := B1.trans (hb.mono B1.size)
  have Q2 := Q1.trans (hb.mono Q1.size)
  clear hb
  clear C0 C1 C2
  obtain ⟨C0, C1, C2⟩ := HX.out.cells3 Q2
  have R_w0 := hr
  clear hr
  go_wp2_with fail
  refine (toSlot_any).mono ?_
  rintro e w3 ⟨rfl, hb⟩
  have s3 := hb.size
  replace R_w0 := R_w0.new hb
  have B3 := B2.trans (hb.mono B2.size)
  have Q3 := Q2.trans (hb.mono Q2.size)
  clear hb
  clear C0 C1 C2
  obtain ⟨C0, C1, C2⟩ := HX.out.cells3 Q3
  go_wp2_with fail
  refine ((HI).out w3).mono ?_
  rintro e w4 ⟨v, rfl, hr, hb⟩
  obtain ⟨E2, k2, rfl, _, hk2, hm2⟩ := hr.rd (ivs_len r0)
  have s4 := hb.size
  replace R_w0 := R_w0.new hb
  have B4 := B3.trans (hb.mono B3.size)
  have Q4 := Q3.trans (hb.mono Q3.size)
  clear hb
  clear C0 C1 C2
  obtain ⟨C0, C1, C2⟩ := HX.out.cells3 Q4
  have R_g0 := hr
  clear hr
  go_wp2_with fail
  refine (eqIntS_any (zs := r0) (ys := r0) (Lib.hid rfl) (Lib.hid rfl) (by omega) (by omega) (R_g0.rd'.more (by omega)) (R_w0.rd'.more (by omega))).mono ?_
  rintro e w5 ⟨he, hb⟩
  rw [show decide (r0 = r0) = true from decide_eq_true rfl] at he
  subst he
  have s5 := hb.size
  replace R_w0 := R_w0.new hb
  replace R_g0 := R_g0.new hb
  have B5 := B4.trans (hb.mono B4.size)
  have Q5 := Q4.trans (hb.mono Q4.size)
  clear hb
  clear C0 C1 C2
  obtain ⟨C0, C1, C2⟩ := HX.out.cells3 Q5
  go_wp2_with fail
  refine (markIntS_any (q := 1) (Lib.hid (ivs_len r0)) (by omega) (by omega) (by omega) R_g0).mono ?_
  rintro e w6 ⟨rfl, hr, ho⟩
  have s6 := ho.size
  replace R_w0 := R_w0.out ho (by omega)
  have B6 := B5.trans (ho.below (by omega) (by omega))
  have Q6 := Q5.trans (ho.below (by omega) (by omega))
  clear ho
  clear C0 C1 C2
  obtain ⟨C0, C1, C2⟩ := HX.out.cells3 Q6
  replace R_g0 := hr
  clear hr
  go_wp2_with fail
  refine (heldIntS_any (n := r0.length) (q := 1) (by omega) (by omega) (by omega) (R_g0.rd'.more (by omega))).mono ?_
  rintro e u9 ⟨rfl, rfl⟩
  go_wp2_with fail
  refine (toSlot_any).mono ?_
  rintro e w7 ⟨rfl, hb⟩
  have s7 := hb.size
  replace R_w0 := R_w0.new hb
  replace R_g0 := R_g0.new hb
  have B7 := B6.trans (hb.mono B6.size)
  have Q7 := Q6.trans (hb.mono Q6.size)
  clear hb
  clear C0 C1 C2
  obtain ⟨C0, C1, C2⟩ := HX.out.cells3 Q7
  go_wp2_with fail
  refine ((HI).out w7).mono ?_
  rintro e w8 ⟨v, rfl, hr, hb⟩
  obtain ⟨E3, k3, rfl, _, hk3, hm3⟩ := hr.rd (ivs_len r0)
  have s8 := hb.size
  replace R_w0 := R_w0.new hb
  replace R_g0 := R_g0.new hb
  have B8 := B7.trans (hb.mono B7.size)
  have Q8 := Q7.trans (hb.mono Q7.size)
  clear hb
  clear C0 C1 C2
  obtain ⟨C0, C1, C2⟩ := HX.out.cells3 Q8
  have R_h0 := hr
  clear hr
  go_wp2_with fail
  refine (eqIntS_any (zs := r0) (ys := r0) (Lib.hid rfl) (Lib.hid rfl) (by omega) (by omega) (R_h0.rd'.more (by omega)) (R_w0.rd'.more (by omega))).mono ?_
  rintro e w9 ⟨he, hb⟩
  rw [show decide (r0 = r0) = true from decide_eq_true rfl] at he
  subst he
  have s9 := hb.size
  replace R_w0 := R_w0.new hb
  replace R_g0 := R_g0.new hb
  replace R_h0 := R_h0.new hb
  have B9 := B8.trans (hb.mono B8.size)
  have Q9 := Q8.trans (hb.mono Q8.size)
  clear hb
  clear C0 C1 C2
  obtain ⟨C0, C1, C2⟩ := HX.out.cells3 Q9
  go_wp2_with fail
  refine (heldIntS_any (n := r0.length) (q := 1) (by omega) (by omega) (by omega) (R_g0.rd'.more (by omega))).mono ?_
  rintro e u9 ⟨rfl, rfl⟩
  go_wp2_with fail
  go_ret
  exact ⟨rfl, B9⟩
theorem contract (H : Type) (enc : TypeId × Value → H) (W : World) (base : Nat) (args : Array Value) (ds gs : List (DataW H)) (before : List MemPlace)
    (hval : ∀ (j : Nat) t v, Try.f7.params[j]? = some t → args[j]? = some v → Value.okWide Try.prog W .any base t v)
    (hW : DataW.Whole enc Try.prog Try.f7.params.toList Rows.fnExactBellsAtSpec.vars false W args.toList ds gs before) (hL : laidMetH Try.prog Rows.fnExactBellsAtRow.laid W)
    (hreach : (DataW.weightsEach Try.prog (Try.f7.params.toList ++ (OpenSpec.ofChange Rows.fnExactBellsAtSpec).bare.plain.varTypes Try.prog) (ds ++ gs)).all (· ≤ reachBytes) = true) :
    Calls Try.prog 7 args W fun e W' => ∃ v, e = .returned v ∧ Rows.fnExactBellsAtSpec.post enc Try.prog Try.f7 false true false false W args v W' := by
  have hW' := hW
  obtain ⟨p, q, hA0, hV, rfl, hfz, hnd⟩ := hW
  have hA : DataW.TrodAll enc Try.prog W 0 (fun _ => true) true Try.f7.params.toList args.toList ds p := hA0
  rw [Try.params7] at hA hval
  obtain ⟨v0, vs0, d0, ds0, p0, q0, hargs, rfl, rfl, h0, r0⟩ := trodAll_cons hA
  obtain ⟨rfl, rfl, rfl⟩ := trodAll_nil r0
  obtain rfl : args = #[v0] := by cases args; simp_all
  obtain ⟨rfl, rfl⟩ := trodVars_none hV
  obtain ⟨p0, rfl, hp0⟩ := struct_open3 Try.underlying23 (by kernel_rfl) (by kernel_rfl : Try.prog.cellsOf 23 = 3) Try.underlying3 Try.underlying3 Try.underlying3 (hval 0 23 v0 rfl rfl) h0
  clear hA0 hval
  have walked : Calls Try.prog 7 #[.agg #[.int .i64 p0.1, .int .i64 p0.2.1, .int .i64 p0.2.2]] W fun e W' => e = .returned (.bool true) ∧ Below W.heap.size W W' := by
    exact core (r0 := belL p0) (by have := (bel_len p0).2; omega) (fun w => specBellsAt_any) (fun w => impBellsAt_any)
  refine walked.mono fun e W' ⟨he, hb⟩ => ?_
  exact ⟨_, he, post_true (tb := 4) hW' rfl Try.underlying4 rfl rfl (by kernel_rfl) (by kernel_rfl) hb⟩
noncomputable def laidWorld (os : Os) : World := World.holding Try.prog os ⟨#[], #[], []⟩
theorem laid_met (os : Os) : laidMet Try.prog Rows.fnExactBellsAtRow.laid ((laidWorld os).forCall (fun _ _ => 0) ⟨#[], #[Value.agg #[.int .i64 0, .int .i64 0, .int .i64 0]], []⟩).memory :=
  laidMet_of_run' 8 (by kernel_rfl) (by kernel_rfl)
theorem reads (os : Os) {H : Type} (enc : TypeId × Value → H) : ∃ places, DataW.whole enc Try.prog ((laidWorld os).forCall (fun _ _ => 0) ⟨#[], #[Value.agg #[.int .i64 0, .int .i64 0, .int .i64 0]], []⟩).memory Try.f7.params.toList Rows.fnExactBellsAtSpec.vars false (#[Value.agg #[.int .i64 0, .int .i64 0, .int .i64 0]]).toList 8 = some ([.agg [.lit (.int .i64 0), .lit (.int .i64 0), .lit (.int .i64 0)]], [], places) :=
  ⟨[], by kernel_rfl⟩
set_option maxRecDepth 100000 in
theorem lifted (os : Os) (started : os.Started) (H : Type) (enc : TypeId × Value → H) (F : Stop.Interp) :
    ReturnsInHanded {} Try.checked os 7 .any ((OpenSpec.ofChange Rows.fnExactBellsAtSpec).preRow enc Try.prog Try.f7 Rows.fnExactBellsAtRow.domain false Rows.fnExactBellsAtRow.laid) (((OpenSpec.ofChange Rows.fnExactBellsAtSpec).at F).post enc Try.prog Try.f7 false true false false) := by
  obtain ⟨places, hx⟩ := reads os enc
  refine returnsInHanded_of_row (C := Try.checked) (s := (OpenSpec.ofChange Rows.fnExactBellsAtSpec)) own started (by kernel_rfl) Try.func7
    (witness_row_at (enc := enc) (C := Try.checked) false (laidWorld os) #[Value.agg #[.int .i64 0, .int .i64 0, .int .i64 0]] rfl (by kernel_rfl) (by kernel_rfl) (by kernel_rfl)
      (OpenSpec.preRow_of_cond 8 hx (by kernel_rfl) (fun k hk => by cases hk) (by kernel_rfl) (laid_met os))) ?_
  intro W base args ds gs before hval hW _ hcond hreach hL _ _
  exact contract H enc W base args ds gs before hval hW hL hreach
theorem said : Rows.FnExactBellsAtSaid :=
  OpenClaim.holds_of_cond 7 Try.f7 rfl rfl rfl rfl rfl rfl rfl ⟨rfl, rfl, rfl, rfl, rfl⟩ rfl rfl rfl rfl rfl (by kernel_rfl) Try.func7 (by kernel_rfl)
    (of_decide_eq_true (by kernel_rfl)) (by unfold Func.isWrapper; first | (rw [if_pos (by decide +kernel)]; kernel_rfl) | (rw [if_neg (by decide +kernel)]; exact ⟨rfl, rfl⟩))
    (fun os started H enc _ F => by rw [OpenClaim.pre_eq_preRow]; exact lifted os started H enc F)
#print axioms said
end Go.Proofs.Ytamocldcfbjfgaa.fnExactBellsAt
