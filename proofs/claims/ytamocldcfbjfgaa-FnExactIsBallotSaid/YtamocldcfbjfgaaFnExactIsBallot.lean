/- Proves the given statement of the law 'FnExactIsBallot': at every input that the statement admits, the law returns true and leaves its arguments as they were. Conditions: those of the given row, no other. -/
import Derived.Test.YtamocldcfbjfgaaRows
import Derived.LaidHandle
import Derived.LaidLaws
import Derived.Stop.Joined
import Derived.Stop.LaidErr
import Derived.ChangeMaps5
import Derived.WalkKit
import Derived.ProofKit
import Derived.OpenShut
import Derived.Deep.DeepHandedRow
import Derived.Lib.LaidTab
import Derived.Deep.RegionHeld3
import Derived.Test.YtamocldcfbjfgaaBase
import Derived.Test.YtamocldcfbjfgaaBalC4
import Derived.Test.YtamocldcfbjfgaaBallotB
import Derived.Test.YtamocldcfbjfgaaOpen3
import Derived.Test.YtamocldcfbjfgaaOpen
import Derived.Test.YtamocldcfbjfgaaGraph
namespace Go.Proofs.Ytamocldcfbjfgaa.fnExactIsBallot
open Go.ChangeShapes Go.WideShapes Go.ChangeAt Go.RowKit
set_option linter.unusedVariables false
set_option maxRecDepth 100000
theorem own : ownKnob Try.prog.godebug = none := by kernel_rfl
theorem ucells : Try.prog.cellsOf 5 = 1 := by kernel_rfl
set_option maxHeartbeats 4000000 in
set_option maxRecDepth 100000 in
theorem core {W : World} {p : T3} {x0 : Bool}
    (hS : ∀ w : World, Calls Try.prog 35 #[Value.agg #[.int .i64 p.1, .int .i64 p.2.1, .int .i64 p.2.2]] w (fun e w' => e = .returned (.bool x0) ∧ Below w.heap.size w w'))
    (hI : ∀ w : World, Calls Try.prog 37 #[Value.agg #[.int .i64 p.1, .int .i64 p.2.1, .int .i64 p.2.2]] w (fun e w' => e = .returned (.bool x0) ∧ Below w.heap.size w w')) :
    Calls Try.prog 9 #[Value.agg #[.int .i64 p.1, .int .i64 p.2.1, .int .i64 p.2.2]] W (fun e W' => e = .returned (.bool true) ∧ Below W.heap.size W W') := by
  have HS := Lib.hid hS
  have HI := Lib.hid hI
  clear hS hI
  obtain ⟨w0, hW, bx, B0, hz⟩ := box3 W 45 (.int .i64 p.1) (.int .i64 p.2.1) (.int .i64 p.2.2)
  have s0 := B0.size
  have HW := Lib.hid hW
  have HX := Lib.hid bx
  obtain ⟨C0, C1, C2⟩ := bx.cells3 (Below.refl _ _)
  have Q0 : Below w0.heap.size w0 w0 := Below.refl _ _
  clear hW hz bx
  go_enter Try.func9, Try.ntmps9
  go_wp2_with fail
  rw [HW.out]
  try (go_wp2_with fail)
  refine (toBallot_any).mono ?_
  rintro e w1 ⟨rfl, hb⟩
  have s1 := hb.size
  have B1 := B0.trans (hb.mono B0.size)
  have Q1 := Q0.trans (hb.mono Q0.size)
  clear hb
  clear C0 C1 C2
  obtain ⟨C0, C1, C2⟩ := HX.out.cells3 Q1
  go_wp2_with fail
  refine ((HS).out w1).mono ?_
  rintro e w2 ⟨rfl, hb⟩
  have s2 := hb.size
  have B2 := B1.trans (hb.mono B1.size)
  have Q2 := Q1.trans (hb.mono Q1.size)
  clear hb
  clear C0 C1 C2
  obtain ⟨C0, C1, C2⟩ := HX.out.cells3 Q2
  go_wp2_with fail
  refine (toBallot_any).mono ?_
  rintro e w3 ⟨rfl, hb⟩
  have s3 := hb.size
  have B3 := B2.trans (hb.mono B2.size)
  have Q3 := Q2.trans (hb.mono Q2.size)
  clear hb
  clear C0 C1 C2
  obtain ⟨C0, C1, C2⟩ := HX.out.cells3 Q3
  go_wp2_with fail
  refine ((HI).out w3).mono ?_
  rintro e w4 ⟨rfl, hb⟩
  have s4 := hb.size
  have B4 := B3.trans (hb.mono B3.size)
  have Q4 := Q3.trans (hb.mono Q3.size)
  clear hb
  clear C0 C1 C2
  obtain ⟨C0, C1, C2⟩ := HX.out.cells3 Q4
  go_wp2_with fail
  go_ret
  exact ⟨rfl, B4⟩
theorem contract (H : Type) (enc : TypeId × Value → H) (W : World) (base : Nat) (args : Array Value) (ds gs : List (DataW H)) (before : List MemPlace)
    (hval : ∀ (j : Nat) t v, Try.f9.params[j]? = some t → args[j]? = some v → Value.okWide Try.prog W .any base t v)
    (hW : DataW.Whole enc Try.prog Try.f9.params.toList Rows.fnExactIsBallotSpec.vars false W args.toList ds gs before) (hL : laidMetH Try.prog Rows.fnExactIsBallotRow.laid W)
    (hreach : (DataW.weightsEach Try.prog (Try.f9.params.toList ++ (OpenSpec.ofChange Rows.fnExactIsBallotSpec).bare.plain.varTypes Try.prog) (ds ++ gs)).all (· ≤ reachBytes) = true) :
    Calls Try.prog 9 args W fun e W' => ∃ v, e = .returned v ∧ Rows.fnExactIsBallotSpec.post enc Try.prog Try.f9 false true false false W args v W' := by
  have hW' := hW
  obtain ⟨p, q, hA0, hV, rfl, hfz, hnd⟩ := hW
  have hA : DataW.TrodAll enc Try.prog W 0 (fun _ => true) true Try.f9.params.toList args.toList ds p := hA0
  rw [Try.params9] at hA hval
  obtain ⟨v0, vs0, d0, ds0, p0, q0, hargs, rfl, rfl, h0, r0⟩ := trodAll_cons hA
  obtain ⟨rfl, rfl, rfl⟩ := trodAll_nil r0
  obtain rfl : args = #[v0] := by cases args; simp_all
  obtain ⟨rfl, rfl⟩ := trodVars_none hV
  obtain ⟨p0, rfl, hp0⟩ := struct_open3 Try.underlying45 (by kernel_rfl) (by kernel_rfl : Try.prog.cellsOf 45 = 3) Try.underlying3 Try.underlying3 Try.underlying3 (hval 0 45 v0 rfl rfl) h0
  clear hA0 hval
  have walked : Calls Try.prog 9 #[.agg #[.int .i64 p0.1, .int .i64 p0.2.1, .int .i64 p0.2.2]] W fun e W' => e = .returned (.bool true) ∧ Below W.heap.size W W' := by
    exact core (x0 := blB p0) (fun w => specIsBallot_any) (fun w => impIsBallot_any)
  refine walked.mono fun e W' ⟨he, hb⟩ => ?_
  exact ⟨_, he, post_true (tb := 4) hW' rfl Try.underlying4 rfl rfl (by kernel_rfl) (by kernel_rfl) hb⟩
noncomputable def laidWorld (os : Os) : World := World.holding Try.prog os ⟨#[], #[], []⟩
theorem laid_met (os : Os) : laidMet Try.prog Rows.fnExactIsBallotRow.laid ((laidWorld os).forCall (fun _ _ => 0) ⟨#[], #[Value.agg #[.int .i64 0, .int .i64 0, .int .i64 0]], []⟩).memory :=
  laidMet_of_run' 8 (by kernel_rfl) (by kernel_rfl)
theorem reads (os : Os) {H : Type} (enc : TypeId × Value → H) : ∃ places, DataW.whole enc Try.prog ((laidWorld os).forCall (fun _ _ => 0) ⟨#[], #[Value.agg #[.int .i64 0, .int .i64 0, .int .i64 0]], []⟩).memory Try.f9.params.toList Rows.fnExactIsBallotSpec.vars false (#[Value.agg #[.int .i64 0, .int .i64 0, .int .i64 0]]).toList 8 = some ([.agg [.lit (.int .i64 0), .lit (.int .i64 0), .lit (.int .i64 0)]], [], places) :=
  ⟨[], by kernel_rfl⟩
set_option maxRecDepth 100000 in
theorem lifted (os : Os) (started : os.Started) (H : Type) (enc : TypeId × Value → H) (F : Stop.Interp) :
    ReturnsInHanded {} Try.checked os 9 .any ((OpenSpec.ofChange Rows.fnExactIsBallotSpec).preRow enc Try.prog Try.f9 Rows.fnExactIsBallotRow.domain false Rows.fnExactIsBallotRow.laid) (((OpenSpec.ofChange Rows.fnExactIsBallotSpec).at F).post enc Try.prog Try.f9 false true false false) := by
  obtain ⟨places, hx⟩ := reads os enc
  refine returnsInHanded_of_row (C := Try.checked) (s := (OpenSpec.ofChange Rows.fnExactIsBallotSpec)) own started (by kernel_rfl) Try.func9
    (witness_row_at (enc := enc) (C := Try.checked) false (laidWorld os) #[Value.agg #[.int .i64 0, .int .i64 0, .int .i64 0]] rfl (by kernel_rfl) (by kernel_rfl) (by kernel_rfl)
      (OpenSpec.preRow_of_cond 8 hx (by kernel_rfl) (fun k hk => by cases hk) (by kernel_rfl) (laid_met os))) ?_
  intro W base args ds gs before hval hW _ hcond hreach hL _ _
  exact contract H enc W base args ds gs before hval hW hL hreach
theorem said : Rows.FnExactIsBallotSaid :=
  OpenClaim.holds_of_cond 9 Try.f9 rfl rfl rfl rfl rfl rfl rfl ⟨rfl, rfl, rfl, rfl, rfl⟩ rfl rfl rfl rfl rfl (by kernel_rfl) Try.func9 (by kernel_rfl)
    (of_decide_eq_true (by kernel_rfl)) (by unfold Func.isWrapper; first | (rw [if_pos (by decide +kernel)]; kernel_rfl) | (rw [if_neg (by decide +kernel)]; exact ⟨rfl, rfl⟩))
    (fun os started H enc _ F => by rw [OpenClaim.pre_eq_preRow]; exact lifted os started H enc F)
#print axioms said
end Go.Proofs.Ytamocldcfbjfgaa.fnExactIsBallot
