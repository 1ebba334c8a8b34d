/- Proves the given statement of the law 'FnExactMayOffer': at every input that the statement admits, the law returns true and leaves its arguments as they were. Conditions: those of the given row, no other. -/
import Derived.Test.YtndahdppikcidaaRows
import Derived.LaidHandle
import Derived.LaidLaws
import Derived.Stop.Joined
import Derived.Stop.LaidErr
import Derived.ChangeMaps5
import Derived.WalkKit
import Derived.ProofKit
import Derived.OpenShut
import Derived.Deep.DeepHandedRow
import Derived.Lib.LaidTab
import Derived.Deep.RegionHeld3
import Derived.Test.YtndahdppikcidaaBase
import Derived.Test.YtndahdppikcidaaOffA
import Derived.Test.YtndahdppikcidaaSlotA
import Derived.Test.YtndahdppikcidaaOpen3
import Derived.Test.YtndahdppikcidaaBxK
import Derived.Test.YtndahdppikcidaaOpen
import Derived.Test.YtndahdppikcidaaGraph
namespace Go.Proofs.Ytndahdppikcidaa.fnExactMayOffer
open Go.ChangeShapes Go.WideShapes Go.ChangeAt Go.RowKit
set_option linter.unusedVariables false
set_option maxRecDepth 100000
theorem own : ownKnob Try.prog.godebug = none := by kernel_rfl
theorem ucells : Try.prog.cellsOf 5 = 1 := by kernel_rfl
set_option maxHeartbeats 4000000 in
set_option maxRecDepth 100000 in
theorem core {W : World} {p0 : T3} {a1 : Int} {x0 : Bool}
    (hS : ∀ (w : World), True → Calls Try.prog 52 #[.agg #[.int .i64 p0.1, .int .i64 p0.2.1, .int .i64 p0.2.2], .int .i64 a1] w (fun e w' => e = .returned (.bool x0) ∧ Below w.heap.size w w'))
    (hI : ∀ (w : World), True → Calls Try.prog 53 #[.agg #[.int .i64 p0.1, .int .i64 p0.2.1, .int .i64 p0.2.2], .int .i64 a1] w (fun e w' => e = .returned (.bool x0) ∧ Below w.heap.size w w')) :
    Calls Try.prog 11 #[.agg #[.int .i64 p0.1, .int .i64 p0.2.1, .int .i64 p0.2.2], .int .i64 a1] W (fun e W' => e = .returned (.bool true) ∧ Below W.heap.size W W') := by
  have HS := Lib.hid hS
  have HI := Lib.hid hI
  clear hS hI
  have early : Below W.heap.size W (W.alloc (Obj.cells #[.int .i64 p0.1, .int .i64 p0.2.1, .int .i64 p0.2.2] 60)) := ((Below.refl _ _).alloc (by simp; try omega) _)
  clear early
  have B0 : Below W.heap.size W W := Below.refl _ _
  go_enter Try.func11, Try.ntmps11
  go_wp2_with fail
  obtain ⟨w1, hw⟩ : ∃ u : World, u = W.alloc (Obj.cells #[.int .i64 p0.1, .int .i64 p0.2.1, .int .i64 p0.2.2] 60) := ⟨_, rfl⟩
  rw [← hw]
  have hb : Below W.heap.size W w1 := by rw [hw]; exact (Below.refl _ _).alloc (Nat.le_refl _) _
  have hbx : Bx w1 W.heap.size 60 #[.int .i64 p0.1, .int .i64 p0.2.1, .int .i64 p0.2.2] := by rw [hw]; exact Bx.made _ _ _
  have z1 : w1.heap.size = W.heap.size + 1 := by rw [hw]; simp
  clear hw
  have s1 := hb.size
  have B1 := B0.trans (hb.mono B0.size)
  have X_aS := hbx
  obtain ⟨C_aS_0, C_aS_1, C_aS_2⟩ := X_aS.k3
  have l1 := hbx.lt
  clear hb hbx
  try (go_wp2_with fail)
  go_wp2_with fail
  refine (toSlot_any).mono ?_
  rintro e w2 ⟨rfl, hb⟩
  clear C_aS_0 C_aS_1 C_aS_2
  have s2 := hb.size
  replace X_aS := X_aS.new hb
  have B2 := B1.trans (hb.mono B1.size)
  obtain ⟨C_aS_0, C_aS_1, C_aS_2⟩ := X_aS.k3
  clear hb
  go_wp2_with fail
  refine ((HS.out w2  trivial)).mono ?_
  rintro e w3 ⟨rfl, hb⟩
  clear C_aS_0 C_aS_1 C_aS_2
  have s3 := hb.size
  replace X_aS := X_aS.new hb
  have B3 := B2.trans (hb.mono B2.size)
  obtain ⟨C_aS_0, C_aS_1, C_aS_2⟩ := X_aS.k3
  clear hb
  go_wp2_with fail
  refine (toSlot_any).mono ?_
  rintro e w4 ⟨rfl, hb⟩
  clear C_aS_0 C_aS_1 C_aS_2
  have s4 := hb.size
  replace X_aS := X_aS.new hb
  have B4 := B3.trans (hb.mono B3.size)
  obtain ⟨C_aS_0, C_aS_1, C_aS_2⟩ := X_aS.k3
  clear hb
  go_wp2_with fail
  refine ((HI.out w4  trivial)).mono ?_
  rintro e w5 ⟨rfl, hb⟩
  clear C_aS_0 C_aS_1 C_aS_2
  have s5 := hb.size
  replace X_aS := X_aS.new hb
  have B5 := B4.trans (hb.mono B4.size)
  obtain ⟨C_aS_0, C_aS_1, C_aS_2⟩ := X_aS.k3
  clear hb
  go_wp2_with fail
  go_ret
  exact ⟨rfl, B5⟩
theorem contract (H : Type) (enc : TypeId × Value → H) (W : World) (base : Nat) (args : Array Value) (ds gs : List (DataW H)) (before : List MemPlace)
    (hval : ∀ (j : Nat) t v, Try.f11.params[j]? = some t → args[j]? = some v → Value.okWide Try.prog W .any base t v)
    (hW : DataW.Whole enc Try.prog Try.f11.params.toList Rows.fnExactMayOfferSpec.vars false W args.toList ds gs before) (hL : laidMetH Try.prog Rows.fnExactMayOfferRow.laid W)
    (hreach : (DataW.weightsEach Try.prog (Try.f11.params.toList ++ (OpenSpec.ofChange Rows.fnExactMayOfferSpec).bare.plain.varTypes Try.prog) (ds ++ gs)).all (· ≤ reachBytes) = true) :
    Calls Try.prog 11 args W fun e W' => ∃ v, e = .returned v ∧ Rows.fnExactMayOfferSpec.post enc Try.prog Try.f11 false true false false W args v W' := by
  have hW' := hW
  obtain ⟨p, q, hA0, hV, rfl, hfz, hnd⟩ := hW
  have hA : DataW.TrodAll enc Try.prog W 0 (fun _ => true) true Try.f11.params.toList args.toList ds p := hA0
  rw [Try.params11] at hA hval
  obtain ⟨v0, vs0, d0, ds0, p0, q0, hargs, rfl, rfl, h0, r0⟩ := trodAll_cons hA
  obtain ⟨v1, vs1, d1, ds1, p1, q1, rfl, rfl, rfl, h1, r1⟩ := trodAll_cons r0
  obtain ⟨rfl, rfl, rfl⟩ := trodAll_nil r1
  obtain rfl : args = #[v0, v1] := by cases args; simp_all
  obtain ⟨rfl, rfl⟩ := trodVars_none hV
  obtain ⟨p0, rfl, hp0⟩ := struct_open3 Try.underlying60 (by kernel_rfl) (by kernel_rfl : Try.prog.cellsOf 60 = 3) Try.underlying3 Try.underlying3 Try.underlying3 (hval 0 60 v0 rfl rfl) h0
  obtain ⟨a1, rfl, rfl, rfl, w1⟩ := open_int Try.underlying3 (hval 1 3 v1 rfl rfl) h1
  clear hA0 hval
  have walked : Calls Try.prog 11 #[.agg #[.int .i64 p0.1, .int .i64 p0.2.1, .int .i64 p0.2.2], .int .i64 a1] W fun e W' => e = .returned (.bool true) ∧ Below W.heap.size W W' := by
    exact core (x0 := mayB p0 a1) (fun w _ => specMayOffer_any) (fun w _ => impMayOffer_any)
  refine walked.mono fun e W' ⟨he, hb⟩ => ?_
  exact ⟨_, he, post_true (tb := 4) hW' rfl Try.underlying4 rfl rfl (by kernel_rfl) (by kernel_rfl) hb⟩
noncomputable def laidWorld (os : Os) : World := World.holding Try.prog os ⟨#[], #[], []⟩
theorem laid_met (os : Os) : laidMet Try.prog Rows.fnExactMayOfferRow.laid ((laidWorld os).forCall (fun _ _ => 0) ⟨#[], #[Value.agg #[.int .i64 0, .int .i64 0, .int .i64 0], Value.int .i64 0], []⟩).memory :=
  laidMet_of_run' 8 (by kernel_rfl) (by kernel_rfl)
theorem reads (os : Os) {H : Type} (enc : TypeId × Value → H) : ∃ places, DataW.whole enc Try.prog ((laidWorld os).forCall (fun _ _ => 0) ⟨#[], #[Value.agg #[.int .i64 0, .int .i64 0, .int .i64 0], Value.int .i64 0], []⟩).memory Try.f11.params.toList Rows.fnExactMayOfferSpec.vars false (#[Value.agg #[.int .i64 0, .int .i64 0, .int .i64 0], Value.int .i64 0]).toList 8 = some ([.agg [.lit (.int .i64 0), .lit (.int .i64 0), .lit (.int .i64 0)], .lit (.int .i64 0)], [], places) :=
  ⟨[], by kernel_rfl⟩
set_option maxRecDepth 100000 in
theorem lifted (os : Os) (started : os.Started) (H : Type) (enc : TypeId × Value → H) (F : Stop.Interp) :
    ReturnsInHanded {} Try.checked os 11 .any ((OpenSpec.ofChange Rows.fnExactMayOfferSpec).preRow enc Try.prog Try.f11 Rows.fnExactMayOfferRow.domain false Rows.fnExactMayOfferRow.laid) (((OpenSpec.ofChange Rows.fnExactMayOfferSpec).at F).post enc Try.prog Try.f11 false true false false) := by
  obtain ⟨places, hx⟩ := reads os enc
  refine returnsInHanded_of_row (C := Try.checked) (s := (OpenSpec.ofChange Rows.fnExactMayOfferSpec)) own started (by kernel_rfl) Try.func11
    (witness_row_at (enc := enc) (C := Try.checked) false (laidWorld os) #[Value.agg #[.int .i64 0, .int .i64 0, .int .i64 0], Value.int .i64 0] rfl (by kernel_rfl) (by kernel_rfl) (by kernel_rfl)
      (OpenSpec.preRow_of_cond 8 hx (by kernel_rfl) (fun k hk => by cases hk) (by kernel_rfl) (laid_met os))) ?_
  intro W base args ds gs before hval hW _ hcond hreach hL _ _
  exact contract H enc W base args ds gs before hval hW hL hreach
theorem said : Rows.FnExactMayOfferSaid :=
  OpenClaim.holds_of_cond 11 Try.f11 rfl rfl rfl rfl rfl rfl rfl ⟨rfl, rfl, rfl, rfl, rfl⟩ rfl rfl rfl rfl rfl (by kernel_rfl) Try.func11 (by kernel_rfl)
    (of_decide_eq_true (by kernel_rfl)) (by unfold Func.isWrapper; first | (rw [if_pos (by decide +kernel)]; kernel_rfl) | (rw [if_neg (by decide +kernel)]; exact ⟨rfl, rfl⟩))
    (fun os started H enc _ F => by rw [OpenClaim.pre_eq_preRow]; exact lifted os started H enc F)
#print axioms said
end Go.Proofs.Ytndahdppikcidaa.fnExactMayOffer
