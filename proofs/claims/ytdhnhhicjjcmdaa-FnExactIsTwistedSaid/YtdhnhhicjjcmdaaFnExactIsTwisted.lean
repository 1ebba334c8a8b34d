/- Proves the given statement of the law 'FnExactIsTwisted': at every input that the statement admits, the law returns true and leaves its arguments as they were. Conditions: those of the given row, no other. -/
import Derived.Test.YtdhnhhicjjcmdaaRows
import Derived.LaidHandle
import Derived.LaidLaws
import Derived.Stop.Joined
import Derived.Stop.LaidErr
import Derived.ChangeMaps5
import Derived.WalkKit
import Derived.ProofKit
import Derived.OpenShut
import Derived.Deep.DeepHandedRow
import Derived.Lib.LaidTab
import Derived.Deep.RegionHeld3
import Derived.Test.YtdhnhhicjjcmdaaBase
import Derived.Test.YtdhnhhicjjcmdaaSrcF
import Derived.Test.YtdhnhhicjjcmdaaSourceC
import Derived.Test.YtdhnhhicjjcmdaaIntSS
import Derived.Test.YtdhnhhicjjcmdaaOpen
import Derived.Test.YtdhnhhicjjcmdaaGraph
namespace Go.Proofs.Ytdhnhhicjjcmdaa.fnExactIsTwisted
open Go.ChangeShapes Go.WideShapes Go.ChangeAt Go.RowKit
set_option linter.unusedVariables false
set_option maxRecDepth 100000
theorem own : ownKnob Try.prog.godebug = none := by kernel_rfl
theorem ucells : Try.prog.cellsOf 5 = 1 := by kernel_rfl
set_option maxHeartbeats 4000000 in
set_option maxRecDepth 100000 in
theorem core {W : World} {A0 : Option Addr} {c0 : Nat} {Y0 : List Src} (R0 : Rd W W.heap.size A0 (flE srcE Y0)) (hc0 : Y0.length ≤ c0) (hm0 : c0 ≤ maxLen) {a1 : Int} {x0 : Bool}
    (hS : ∀ (w : World) (B0 : Option Addr) (d0 : Nat), Y0.length ≤ 1048576 → Y0.length ≤ d0 → d0 ≤ maxLen → Rd w w.heap.size B0 (flE srcE Y0) → Calls Try.prog 30 #[.slice B0 Y0.length d0, .int .i64 a1] w (fun e w' => e = .returned (.bool x0) ∧ Below w.heap.size w w'))
    (hI : ∀ (w : World) (B0 : Option Addr) (d0 : Nat), Y0.length ≤ 1048576 → Y0.length ≤ d0 → d0 ≤ maxLen → Rd w w.heap.size B0 (flE srcE Y0) → Calls Try.prog 31 #[.slice B0 Y0.length d0, .int .i64 a1] w (fun e w' => e = .returned (.bool x0) ∧ Below w.heap.size w w')) :
    Calls Try.prog 8 #[.slice A0 Y0.length c0, .int .i64 a1] W (fun e W' => e = .returned (.bool true) ∧ Below W.heap.size W W') := by
  have HS := Lib.hid hS
  have HI := Lib.hid hI
  clear hS hI
  have early : Below W.heap.size W W := (Below.refl _ _)
  clear early
  have B0 : Below W.heap.size W W := Below.refl _ _
  go_enter Try.func8, Try.ntmps8
  go_wp2_with fail
  refine (szSourceS_any (q := 1048576) (by unfold maxLen at hm0; omega) (by omega) (by omega)).mono ?_
  rintro e u0 ⟨rfl, rfl⟩
  by_cases hz0 : 1048576 < (Y0.length : Int)
  · rw [show szd 1048576 Y0.length = -1 by unfold szd; rw [if_pos (by omega)]]
    go_wp2_with fail
    go_ret
    exact ⟨rfl, B0⟩
  have hy0 : Y0.length ≤ 1048576 := by omega
  rw [show szd 1048576 Y0.length = 1048576 - (Y0.length : Int) by unfold szd; rw [if_neg (by omega)]]
  obtain ⟨r_0, hrr⟩ : ∃ r : Int, r = 1048576 - (Y0.length : Int) := ⟨_, rfl⟩
  rw [← hrr]
  have hq_0 : 0 ≤ r_0 ∧ r_0 ≤ 1048576 := by omega
  clear hrr hz0
  go_wp2_with fail
  refine (toSourceS_any (X := Y0) (Lib.hid rfl) (by omega) ((R0.below B0).more (by omega))).mono ?_
  rintro e w1 ⟨v, rfl, hr, hb⟩
  obtain ⟨E2, k2, rfl, _, hk2, hm2⟩ := hr.rd (n := Y0.length) rfl
  have s1 := hb.size
  have B1 := B0.trans (hb.mono B0.size)
  have Q_t1 := hr
  clear hr hb
  go_wp2_with fail
  refine ((HS.out w1 _ _ (by omega) (by omega) (by assumption) (Q_t1.rd'.more (by omega)))).mono ?_
  rintro e w2 ⟨rfl, hb⟩
  clear Q_t1
  have s2 := hb.size
  have B2 := B1.trans (hb.mono B1.size)
  clear hb
  go_wp2_with fail
  refine (toSourceS_any (X := Y0) (Lib.hid rfl) (by omega) ((R0.below B2).more (by omega))).mono ?_
  rintro e w3 ⟨v, rfl, hr, hb⟩
  obtain ⟨E3, k3, rfl, _, hk3, hm3⟩ := hr.rd (n := Y0.length) rfl
  have s3 := hb.size
  have B3 := B2.trans (hb.mono B2.size)
  have Q_x0 := hr
  clear hr hb
  go_wp2_with fail
  refine ((HI.out w3 _ _ (by omega) (by omega) (by assumption) (Q_x0.rd'.more (by omega)))).mono ?_
  rintro e w4 ⟨rfl, hb⟩
  have s4 := hb.size
  replace Q_x0 := Q_x0.new hb
  have B4 := B3.trans (hb.mono B3.size)
  clear hb
  go_wp2_with fail
  refine (toSourceS_any (X := Y0) (Lib.hid rfl) (by omega) ((R0.below B4).more (by omega))).mono ?_
  rintro e w5 ⟨v, rfl, hr, hb⟩
  obtain ⟨E5, k5, rfl, _, hk5, hm5⟩ := hr.rd (n := Y0.length) rfl
  have s5 := hb.size
  replace Q_x0 := Q_x0.new hb
  have B5 := B4.trans (hb.mono B4.size)
  have Q_t4 := hr
  clear hr hb
  go_wp2_with fail
  refine (eqSourceS_any (X := Y0) (Y := Y0) (Lib.hid rfl) (Lib.hid rfl) (by omega) (by omega) (Q_x0.rd'.more (by omega)) (Q_t4.rd'.more (by omega))).mono ?_
  rintro e w6 ⟨he, hb⟩
  rw [show decide (Y0 = Y0) = true from decide_eq_true rfl] at he
  subst he
  clear Q_t4
  have s6 := hb.size
  replace Q_x0 := Q_x0.new hb
  have B6 := B5.trans (hb.mono B5.size)
  clear hb
  go_wp2_with fail
  go_ret
  exact ⟨rfl, B6⟩
theorem contract (H : Type) (enc : TypeId × Value → H) (W : World) (base : Nat) (args : Array Value) (ds gs : List (DataW H)) (before : List MemPlace)
    (hval : ∀ (j : Nat) t v, Try.f8.params[j]? = some t → args[j]? = some v → Value.okWide Try.prog W .any base t v)
    (hW : DataW.Whole enc Try.prog Try.f8.params.toList Rows.fnExactIsTwistedSpec.vars false W args.toList ds gs before) (hL : laidMetH Try.prog Rows.fnExactIsTwistedRow.laid W)
    (hreach : (DataW.weightsEach Try.prog (Try.f8.params.toList ++ (OpenSpec.ofChange Rows.fnExactIsTwistedSpec).bare.plain.varTypes Try.prog) (ds ++ gs)).all (· ≤ reachBytes) = true) :
    Calls Try.prog 8 args W fun e W' => ∃ v, e = .returned v ∧ Rows.fnExactIsTwistedSpec.post enc Try.prog Try.f8 false true false false W args v W' := by
  have hW' := hW
  obtain ⟨p, q, hA0, hV, rfl, hfz, hnd⟩ := hW
  have hA : DataW.TrodAll enc Try.prog W 0 (fun _ => true) true Try.f8.params.toList args.toList ds p := hA0
  rw [Try.params8] at hA hval
  obtain ⟨v0, vs0, d0, ds0, p0, q0, hargs, rfl, rfl, h0, r0⟩ := trodAll_cons hA
  obtain ⟨v1, vs1, d1, ds1, p1, q1, rfl, rfl, rfl, h1, r1⟩ := trodAll_cons r0
  obtain ⟨rfl, rfl, rfl⟩ := trodAll_nil r1
  obtain rfl : args = #[v0, v1] := by cases args; simp_all
  obtain ⟨rfl, rfl⟩ := trodVars_none hV
  obtain ⟨A0, c0, Y0, rfl, R0, hc0, hm0⟩ := slice_openG srcE Try.underlying22 (by kernel_rfl : Try.prog.cellsOf 37 = 4) (src_el Try.underlying37 rfl rfl rfl rfl Try.underlying3 Try.underlying3 Try.underlying3 Try.underlying4 (by kernel_rfl) (by kernel_rfl) (by kernel_rfl) (by kernel_rfl)) (hval 0 22 v0 rfl rfl) h0
  obtain ⟨a1, rfl, rfl, rfl, w1⟩ := open_int Try.underlying3 (hval 1 3 v1 rfl rfl) h1
  clear hA0 hval
  have walked : Calls Try.prog 8 #[.slice A0 Y0.length c0, .int .i64 a1] W fun e W' => e = .returned (.bool true) ∧ Below W.heap.size W W' := by
    exact core (x0 := twiB Y0 a1) R0 hc0 hm0 (fun w B d hz hd hm hr => specIsTwisted_any (Lib.hid rfl) (by omega) hd hr) (fun w B d hz hd hm hr => impIsTwisted_any (Lib.hid rfl) (by omega) hr)
  refine walked.mono fun e W' ⟨he, hb⟩ => ?_
  exact ⟨_, he, post_true (tb := 4) hW' rfl Try.underlying4 rfl rfl (by kernel_rfl) (by kernel_rfl) hb⟩
noncomputable def laidWorld (os : Os) : World := World.holding Try.prog os ⟨#[], #[], []⟩
theorem laid_met (os : Os) : laidMet Try.prog Rows.fnExactIsTwistedRow.laid ((laidWorld os).forCall (fun _ _ => 0) ⟨#[], #[Value.slice none 0 0, Value.int .i64 0], []⟩).memory :=
  laidMet_of_run' 8 (by kernel_rfl) (by kernel_rfl)
theorem reads (os : Os) {H : Type} (enc : TypeId × Value → H) : ∃ places, DataW.whole enc Try.prog ((laidWorld os).forCall (fun _ _ => 0) ⟨#[], #[Value.slice none 0 0, Value.int .i64 0], []⟩).memory Try.f8.params.toList Rows.fnExactIsTwistedSpec.vars false (#[Value.slice none 0 0, Value.int .i64 0]).toList 8 = some ([.nil, .lit (.int .i64 0)], [], places) :=
  ⟨[], by kernel_rfl⟩
set_option maxRecDepth 100000 in
theorem lifted (os : Os) (started : os.Started) (H : Type) (enc : TypeId × Value → H) (F : Stop.Interp) :
    ReturnsInHanded {} Try.checked os 8 .any ((OpenSpec.ofChange Rows.fnExactIsTwistedSpec).preRow enc Try.prog Try.f8 Rows.fnExactIsTwistedRow.domain false Rows.fnExactIsTwistedRow.laid) (((OpenSpec.ofChange Rows.fnExactIsTwistedSpec).at F).post enc Try.prog Try.f8 false true false false) := by
  obtain ⟨places, hx⟩ := reads os enc
  refine returnsInHanded_of_row (C := Try.checked) (s := (OpenSpec.ofChange Rows.fnExactIsTwistedSpec)) own started (by kernel_rfl) Try.func8
    (witness_row_at (enc := enc) (C := Try.checked) false (laidWorld os) #[Value.slice none 0 0, Value.int .i64 0] rfl (by kernel_rfl) (by kernel_rfl) (by kernel_rfl)
      (OpenSpec.preRow_of_cond 8 hx (by kernel_rfl) (fun k hk => by cases hk) (by kernel_rfl) (laid_met os))) ?_
  intro W base args ds gs before hval hW _ hcond hreach hL _ _
  exact contract H enc W base args ds gs before hval hW hL hreach
theorem said : Rows.FnExactIsTwistedSaid :=
  OpenClaim.holds_of_cond 8 Try.f8 rfl rfl rfl rfl rfl rfl rfl ⟨rfl, rfl, rfl, rfl, rfl⟩ rfl rfl rfl rfl rfl (by kernel_rfl) Try.func8 (by kernel_rfl)
    (of_decide_eq_true (by kernel_rfl)) (by unfold Func.isWrapper; first | (rw [if_pos (by decide +kernel)]; kernel_rfl) | (rw [if_neg (by decide +kernel)]; exact ⟨rfl, rfl⟩))
    (fun os started H enc _ F => by rw [OpenClaim.pre_eq_preRow]; exact lifted os started H enc F)
#print axioms said
end Go.Proofs.Ytdhnhhicjjcmdaa.fnExactIsTwisted
