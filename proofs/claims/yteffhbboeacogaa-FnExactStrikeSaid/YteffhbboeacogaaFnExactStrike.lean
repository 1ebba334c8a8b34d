/- Proves the given statement of the law 'FnExactStrike': at every input that the statement admits, the law returns true and leaves its arguments as they were. Conditions: those of the given row, no other. -/
import Derived.Test.YteffhbboeacogaaRows
import Derived.LaidHandle
import Derived.LaidLaws
import Derived.Stop.Joined
import Derived.Stop.LaidErr
import Derived.ChangeMaps5
import Derived.WalkKit
import Derived.ProofKit
import Derived.OpenShut
import Derived.Deep.DeepHandedRow
import Derived.Lib.LaidTab
import Derived.Deep.RegionHeld3
import Derived.Test.YteffhbboeacogaaBase
import Derived.Test.YteffhbboeacogaaStrM
import Derived.Test.YteffhbboeacogaaIntSS
import Derived.Test.YteffhbboeacogaaOpen
import Derived.Test.YteffhbboeacogaaGraph
namespace Go.Proofs.Yteffhbboeacogaa.fnExactStrike
open Go.ChangeShapes Go.WideShapes Go.ChangeAt Go.RowKit
set_option linter.unusedVariables false
set_option maxRecDepth 100000
theorem own : ownKnob Try.prog.godebug = none := by kernel_rfl
theorem ucells : Try.prog.cellsOf 5 = 1 := by kernel_rfl
set_option maxHeartbeats 4000000 in
set_option maxRecDepth 100000 in
theorem core {W : World} {A0 : Option Addr} {c0 : Nat} {z0 : List Int} (R0 : Rd W W.heap.size A0 (ivs z0)) (hc0 : z0.length ≤ c0) {A1 : Option Addr} {c1 : Nat} {z1 : List Int} (R1 : Rd W W.heap.size A1 (ivs z1)) (hc1 : z1.length ≤ c1) {x0 : Int} {x1 : Bool}
    (hS : ∀ (w : World) (B0 : Option Addr) (d0 : Nat) (B1 : Option Addr) (d1 : Nat), z0.length ≤ 1048576 → z0.length ≤ d0 → d0 ≤ maxLen → Rd w w.heap.size B0 (ivs z0) → z1.length ≤ 1048576 → z1.length ≤ d1 → d1 ≤ maxLen → Rd w w.heap.size B1 (ivs z1) → Calls Try.prog 27 #[.slice B0 z0.length d0, .slice B1 z1.length d1] w (fun e w' => e = .returned (.tuple #[.int .i64 x0, .bool x1]) ∧ Below w.heap.size w w'))
    (hI : ∀ (w : World) (B0 : Option Addr) (d0 : Nat) (B1 : Option Addr) (d1 : Nat), z0.length ≤ 1048576 → z0.length ≤ d0 → d0 ≤ maxLen → Rd w w.heap.size B0 (ivs z0) → z1.length ≤ 1048576 → z1.length ≤ d1 → d1 ≤ maxLen → Rd w w.heap.size B1 (ivs z1) → Calls Try.prog 29 #[.slice B0 z0.length d0, .slice B1 z1.length d1] w (fun e w' => e = .returned (.tuple #[.int .i64 x0, .bool x1]) ∧ Below w.heap.size w w')) :
    Calls Try.prog 4 #[.slice A0 z0.length c0, .slice A1 z1.length c1] W (fun e W' => e = .returned (.bool true) ∧ Below W.heap.size W W') := by
  have HS := Lib.hid hS
  have HI := Lib.hid hI
  clear hS hI
  have early : Below W.heap.size W W := (Below.refl _ _)
  by_cases hz0 : 1048576 < z0.length
  · go_enter Try.func4, Try.ntmps4
    go_wp2_with fail
    go_ret
    exact ⟨rfl, early⟩
  have hy0 : z0.length ≤ 1048576 := by omega
  clear hz0
  by_cases hz1 : 1048576 < z1.length
  · go_enter Try.func4, Try.ntmps4
    go_wp2_with fail
    go_ret
    exact ⟨rfl, early⟩
  have hy1 : z1.length ≤ 1048576 := by omega
  clear hz1
  clear early
  have B0 : Below W.heap.size W W := Below.refl _ _
  go_enter Try.func4, Try.ntmps4
  go_wp2_with fail
  refine (toIntS_any (zs := z0) (Lib.hid rfl) (by omega) ((R0.below B0).more (by omega))).mono ?_
  rintro e w1 ⟨v, rfl, hr, hb⟩
  obtain ⟨E2, k2, rfl, _, hk2, hm2⟩ := hr.rd (ivs_len z0)
  have s1 := hb.size
  have B1 := B0.trans (hb.mono B0.size)
  have Q_t1 := hr
  clear hr hb
  go_wp2_with fail
  refine (toIntS_any (zs := z1) (Lib.hid rfl) (by omega) ((R1.below B1).more (by omega))).mono ?_
  rintro e w2 ⟨v, rfl, hr, hb⟩
  obtain ⟨E4, k4, rfl, _, hk4, hm4⟩ := hr.rd (ivs_len z1)
  have s2 := hb.size
  replace Q_t1 := Q_t1.new hb
  have B2 := B1.trans (hb.mono B1.size)
  have Q_t3 := hr
  clear hr hb
  go_wp2_with fail
  refine ((HS.out w2 _ _ _ _ (by omega) (by omega) (by assumption) (Q_t1.rd'.more (by omega)) (by omega) (by omega) (by assumption) (Q_t3.rd'.more (by omega)))).mono ?_
  rintro e w3 ⟨rfl, hb⟩
  clear Q_t1
  clear Q_t3
  have s3 := hb.size
  have B3 := B2.trans (hb.mono B2.size)
  clear hb
  go_wp2_with fail
  refine (toIntS_any (zs := z0) (Lib.hid rfl) (by omega) ((R0.below B3).more (by omega))).mono ?_
  rintro e w4 ⟨v, rfl, hr, hb⟩
  obtain ⟨E5, k5, rfl, _, hk5, hm5⟩ := hr.rd (ivs_len z0)
  have s4 := hb.size
  have B4 := B3.trans (hb.mono B3.size)
  have Q_x0 := hr
  clear hr hb
  go_wp2_with fail
  refine (toIntS_any (zs := z1) (Lib.hid rfl) (by omega) ((R1.below B4).more (by omega))).mono ?_
  rintro e w5 ⟨v, rfl, hr, hb⟩
  obtain ⟨E6, k6, rfl, _, hk6, hm6⟩ := hr.rd (ivs_len z1)
  have s5 := hb.size
  replace Q_x0 := Q_x0.new hb
  have B5 := B4.trans (hb.mono B4.size)
  have Q_x1 := hr
  clear hr hb
  go_wp2_with fail
  refine ((HI.out w5 _ _ _ _ (by omega) (by omega) (by assumption) (Q_x0.rd'.more (by omega)) (by omega) (by omega) (by assumption) (Q_x1.rd'.more (by omega)))).mono ?_
  rintro e w6 ⟨rfl, hb⟩
  have s6 := hb.size
  replace Q_x0 := Q_x0.new hb
  replace Q_x1 := Q_x1.new hb
  have B6 := B5.trans (hb.mono B5.size)
  clear hb
  go_wp2_with fail
  refine (toIntS_any (zs := z0) (Lib.hid rfl) (by omega) ((R0.below B6).more (by omega))).mono ?_
  rintro e w7 ⟨v, rfl, hr, hb⟩
  obtain ⟨E8, k8, rfl, _, hk8, hm8⟩ := hr.rd (ivs_len z0)
  have s7 := hb.size
  replace Q_x0 := Q_x0.new hb
  replace Q_x1 := Q_x1.new hb
  have B7 := B6.trans (hb.mono B6.size)
  have Q_t7 := hr
  clear hr hb
  go_wp2_with fail
  refine (eqIntS_any (zs := z0) (ys := z0) (Lib.hid rfl) (Lib.hid rfl) (by omega) (by omega) (Q_x0.rd'.more (by omega)) (Q_t7.rd'.more (by omega))).mono ?_
  rintro e w8 ⟨he, hb⟩
  rw [show decide (z0 = z0) = true from decide_eq_true rfl] at he
  subst he
  clear Q_t7
  have s8 := hb.size
  replace Q_x0 := Q_x0.new hb
  replace Q_x1 := Q_x1.new hb
  have B8 := B7.trans (hb.mono B7.size)
  clear hb
  go_wp2_with fail
  refine (toIntS_any (zs := z1) (Lib.hid rfl) (by omega) ((R1.below B8).more (by omega))).mono ?_
  rintro e w9 ⟨v, rfl, hr, hb⟩
  obtain ⟨E10, k10, rfl, _, hk10, hm10⟩ := hr.rd (ivs_len z1)
  have s9 := hb.size
  replace Q_x0 := Q_x0.new hb
  replace Q_x1 := Q_x1.new hb
  have B9 := B8.trans (hb.mono B8.size)
  have Q_t9 := hr
  clear hr hb
  go_wp2_with fail
  refine (eqIntS_any (zs := z1) (ys := z1) (Lib.hid rfl) (Lib.hid rfl) (by omega) (by omega) (Q_x1.rd'.more (by omega)) (Q_t9.rd'.more (by omega))).mono ?_
  rintro e w10 ⟨he, hb⟩
  rw [show decide (z1 = z1) = true from decide_eq_true rfl] at he
  subst he
  clear Q_t9
  have s10 := hb.size
  replace Q_x0 := Q_x0.new hb
  replace Q_x1 := Q_x1.new hb
  have B10 := B9.trans (hb.mono B9.size)
  clear hb
  go_wp2_with fail
  go_ret
  exact ⟨rfl, B10⟩
theorem contract (H : Type) (enc : TypeId × Value → H) (W : World) (base : Nat) (args : Array Value) (ds gs : List (DataW H)) (before : List MemPlace)
    (hval : ∀ (j : Nat) t v, Try.f4.params[j]? = some t → args[j]? = some v → Value.okWide Try.prog W .any base t v)
    (hW : DataW.Whole enc Try.prog Try.f4.params.toList Rows.fnExactStrikeSpec.vars false W args.toList ds gs before) (hL : laidMetH Try.prog Rows.fnExactStrikeRow.laid W)
    (hreach : (DataW.weightsEach Try.prog (Try.f4.params.toList ++ (OpenSpec.ofChange Rows.fnExactStrikeSpec).bare.plain.varTypes Try.prog) (ds ++ gs)).all (· ≤ reachBytes) = true) :
    Calls Try.prog 4 args W fun e W' => ∃ v, e = .returned v ∧ Rows.fnExactStrikeSpec.post enc Try.prog Try.f4 false true false false W args v W' := by
  have hW' := hW
  obtain ⟨p, q, hA0, hV, rfl, hfz, hnd⟩ := hW
  have hA : DataW.TrodAll enc Try.prog W 0 (fun _ => true) true Try.f4.params.toList args.toList ds p := hA0
  rw [Try.params4] at hA hval
  obtain ⟨v0, vs0, d0, ds0, p0, q0, hargs, rfl, rfl, h0, r0⟩ := trodAll_cons hA
  obtain ⟨v1, vs1, d1, ds1, p1, q1, rfl, rfl, rfl, h1, r1⟩ := trodAll_cons r0
  obtain ⟨rfl, rfl, rfl⟩ := trodAll_nil r1
  obtain rfl : args = #[v0, v1] := by cases args; simp_all
  obtain ⟨rfl, rfl⟩ := trodVars_none hV
  obtain ⟨A0, c0, z0, rfl, R0, hc0, hm0, hb0⟩ := slice_open Try.underlying24 Try.underlying3 (by kernel_rfl : Try.prog.cellsOf 3 = 1) (hval 0 24 v0 rfl rfl) h0
  obtain ⟨A1, c1, z1, rfl, R1, hc1, hm1, hb1⟩ := slice_open Try.underlying24 Try.underlying3 (by kernel_rfl : Try.prog.cellsOf 3 = 1) (hval 1 24 v1 rfl rfl) h1
  clear hA0 hval
  have walked : Calls Try.prog 4 #[.slice A0 z0.length c0, .slice A1 z1.length c1] W fun e W' => e = .returned (.bool true) ∧ Below W.heap.size W W' := by
    exact core (x0 := strV z0 z1) (x1 := strB z0 z1) R0 hc0 R1 hc1 (fun w B d B2 d2 hz hd hm hr hz2 hd2 hm2 hr2 => specStrike_any (Lib.hid rfl) (by omega) hd hr (Lib.hid rfl) (by omega) hd2 hr2) (fun w B d B2 d2 hz hd hm hr hz2 hd2 hm2 hr2 => impStrike_any (Lib.hid rfl) (by omega) hd hr (Lib.hid rfl) (by omega) hr2)
  refine walked.mono fun e W' ⟨he, hb⟩ => ?_
  exact ⟨_, he, post_true (tb := 4) hW' rfl Try.underlying4 rfl rfl (by kernel_rfl) (by kernel_rfl) hb⟩
noncomputable def laidWorld (os : Os) : World := World.holding Try.prog os ⟨#[], #[], []⟩
theorem laid_met (os : Os) : laidMet Try.prog Rows.fnExactStrikeRow.laid ((laidWorld os).forCall (fun _ _ => 0) ⟨#[], #[Value.slice none 0 0, Value.slice none 0 0], []⟩).memory :=
  laidMet_of_run' 8 (by kernel_rfl) (by kernel_rfl)
theorem reads (os : Os) {H : Type} (enc : TypeId × Value → H) : ∃ places, DataW.whole enc Try.prog ((laidWorld os).forCall (fun _ _ => 0) ⟨#[], #[Value.slice none 0 0, Value.slice none 0 0], []⟩).memory Try.f4.params.toList Rows.fnExactStrikeSpec.vars false (#[Value.slice none 0 0, Value.slice none 0 0]).toList 8 = some ([.nil, .nil], [], places) :=
  ⟨[], by kernel_rfl⟩
set_option maxRecDepth 100000 in
theorem lifted (os : Os) (started : os.Started) (H : Type) (enc : TypeId × Value → H) (F : Stop.Interp) :
    ReturnsInHanded {} Try.checked os 4 .any ((OpenSpec.ofChange Rows.fnExactStrikeSpec).preRow enc Try.prog Try.f4 Rows.fnExactStrikeRow.domain false Rows.fnExactStrikeRow.laid) (((OpenSpec.ofChange Rows.fnExactStrikeSpec).at F).post enc Try.prog Try.f4 false true false false) := by
  obtain ⟨places, hx⟩ := reads os enc
  refine returnsInHanded_of_row (C := Try.checked) (s := (OpenSpec.ofChange Rows.fnExactStrikeSpec)) own started (by kernel_rfl) Try.func4
    (witness_row_at (enc := enc) (C := Try.checked) false (laidWorld os) #[Value.slice none 0 0, Value.slice none 0 0] rfl (by kernel_rfl) (by kernel_rfl) (by kernel_rfl)
      (OpenSpec.preRow_of_cond 8 hx (by kernel_rfl) (fun k hk => by cases hk) (by kernel_rfl) (laid_met os))) ?_
  intro W base args ds gs before hval hW _ hcond hreach hL _ _
  exact contract H enc W base args ds gs before hval hW hL hreach
theorem said : Rows.FnExactStrikeSaid :=
  OpenClaim.holds_of_cond 4 Try.f4 rfl rfl rfl rfl rfl rfl rfl ⟨rfl, rfl, rfl, rfl, rfl⟩ rfl rfl rfl rfl rfl (by kernel_rfl) Try.func4 (by kernel_rfl)
    (of_decide_eq_true (by kernel_rfl)) (by unfold Func.isWrapper; first | (rw [if_pos (by decide +kernel)]; kernel_rfl) | (rw [if_neg (by decide +kernel)]; exact ⟨rfl, rfl⟩))
    (fun os started H enc _ F => by rw [OpenClaim.pre_eq_preRow]; exact lifted os started H enc F)
#print axioms said
end Go.Proofs.Yteffhbboeacogaa.fnExactStrike
