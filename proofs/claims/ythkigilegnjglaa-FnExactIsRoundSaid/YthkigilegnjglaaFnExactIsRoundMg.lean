/- Proves the given statement of the law 'FnExactIsRound': at every input that the statement admits, the law returns true and leaves its arguments as they were. Conditions: those of the given row, no other. -/
import Derived.Test.YthkigilegnjglaaRows
import Derived.LaidHandle
import Derived.LaidLaws
import Derived.Stop.Joined
import Derived.Stop.LaidErr
import Derived.ChangeMaps5
import Derived.WalkKit
import Derived.ProofKit
import Derived.OpenShut
import Derived.Deep.DeepHandedRow
import Derived.Lib.LaidTab
import Derived.Deep.RegionHeld3
import Derived.Test.YthkigilegnjglaaMg0
import Derived.Test.YthkigilegnjglaaIrC
import Derived.Test.YthkigilegnjglaaIrM
import Derived.Test.YthkigilegnjglaaPairB
import Derived.Test.YthkigilegnjglaaPairC
import Derived.Test.YthkigilegnjglaaTeamC
import Derived.Test.YthkigilegnjglaaTeamO
import Derived.Test.YthkigilegnjglaaOpen
import Derived.Test.YthkigilegnjglaaMg5
namespace Go.Proofs.Ythkigilegnjglaa.fnExactIsRound
open Go.ChangeShapes Go.WideShapes Go.ChangeAt Go.RowKit
set_option linter.unusedVariables false
set_option maxRecDepth 100000
theorem own : ownKnob Try.prog.godebug = none := by kernel_rfl
theorem ucells : Try.prog.cellsOf 5 = 1 := by kernel_rfl
set_option maxHeartbeats 4000000 in
set_option maxRecDepth 100000 in
theorem core {W : World} {A0 : Option Addr} {c0 : Nat} {X0 : List Tm} (R0 : RdT W W.heap.size A0 X0) (hc0 : X0.length ≤ c0) (hm0 : c0 ≤ maxLen) {A1 : Option Addr} {c1 : Nat} {Y1 : List T2} (R1 : Rd W W.heap.size A1 (t2s Y1)) (hc1 : Y1.length ≤ c1) (hm1 : c1 ≤ maxLen) {x0 : Bool}
    (hS : ∀ (w : World) (B0 : Option Addr) (d0 : Nat) (B1 : Option Addr) (d1 : Nat), X0.length ≤ 1048576 → Hid (∀ x ∈ X0, x.met.length ≤ 1048576) → psum (X0.map Tm.met) X0.length ≤ 1048576 → X0.length ≤ d0 → d0 ≤ maxLen → RdT w w.heap.size B0 X0 → Y1.length ≤ 1048576 → Y1.length ≤ d1 → d1 ≤ maxLen → Rd w w.heap.size B1 (t2s Y1) → Calls Try.prog 47 #[.slice B0 X0.length d0, .slice B1 Y1.length d1] w (fun e w' => e = .returned (.bool x0) ∧ Below w.heap.size w w'))
    (hI : ∀ (w : World) (B0 : Option Addr) (d0 : Nat) (B1 : Option Addr) (d1 : Nat), X0.length ≤ 1048576 → Hid (∀ x ∈ X0, x.met.length ≤ 1048576) → psum (X0.map Tm.met) X0.length ≤ 1048576 → X0.length ≤ d0 → d0 ≤ maxLen → RdT w w.heap.size B0 X0 → Y1.length ≤ 1048576 → Y1.length ≤ d1 → d1 ≤ maxLen → Rd w w.heap.size B1 (t2s Y1) → Calls Try.prog 49 #[.slice B0 X0.length d0, .slice B1 Y1.length d1] w (fun e w' => e = .returned (.bool x0) ∧ Below w.heap.size w w')) :
    Calls Try.prog 11 #[.slice A0 X0.length c0, .slice A1 Y1.length c1] W (fun e W' => e = .returned (.bool true) ∧ Below W.heap.size W W') := by
  have HS := Lib.hid hS
  have HI := Lib.hid hI
  clear hS hI
  have early : Below W.heap.size W W := (Below.refl _ _)
  clear early
  have B0 : Below W.heap.size W W := Below.refl _ _
  go_enter Try.func11, Try.ntmps11
  go_wp2_with fail
  refine (szTeamS_any (q := 1048576) (X := X0) (Lib.hid rfl) (by unfold maxLen at hm0; omega) (by omega) (by omega) ((R0.below B0).more (by omega))).mono ?_
  rintro e w1 ⟨r_0, rfl, hb, hr⟩
  have s1 := hb.size
  have B1 := B0.trans (hb.mono B0.size)
  clear hb
  rcases hr with rfl | ⟨hr_0, hsz⟩
  · go_wp2_with fail
    go_ret
    exact ⟨rfl, B1⟩
  have hy0 : X0.length ≤ 1048576 := by omega
  have hp0 : psum (X0.map Tm.met) X0.length ≤ 1048576 := by omega
  have hs0 : Hid (∀ x ∈ X0, x.met.length ≤ 1048576) := Lib.hid (fun x hx => by obtain ⟨i, hi, rfl⟩ := List.getElem_of_mem hx; exact Nat.le_trans (Tm_mets_mem hi) hp0)
  have hq_0 : r_0 ≤ 1048576 := by omega
  clear hsz
  go_wp2_with fail
  refine (szPairS_any (q := r_0) (by unfold maxLen at hm1; omega) (by omega) (by omega)).mono ?_
  rintro e u1 ⟨rfl, rfl⟩
  by_cases hz1 : r_0 < (Y1.length : Int)
  · rw [show szd r_0 Y1.length = -1 by unfold szd; rw [if_pos (by omega)]]
    go_wp2_with fail
    go_ret
    exact ⟨rfl, B1⟩
  have hy1 : Y1.length ≤ 1048576 := by omega
  rw [show szd r_0 Y1.length = r_0 - (Y1.length : Int) by unfold szd; rw [if_neg (by omega)]]
  obtain ⟨r_1, hrr⟩ : ∃ r : Int, r = r_0 - (Y1.length : Int) := ⟨_, rfl⟩
  rw [← hrr]
  have hq_1 : 0 ≤ r_1 ∧ r_1 ≤ 1048576 := by omega
  clear hrr hz1
  go_wp2_with fail
  refine (toTeamS_any (X := X0) (Lib.hid rfl) (by omega) (Lib.hid (fun x hx => Nat.le_trans (hs0.out x hx) (by omega))) ((R0.below B1).more (by omega))).mono ?_
  rintro e w2 ⟨v, rfl, hr, hb⟩
  obtain ⟨E2, k2, rfl, _, hk2, hm2⟩ := hr.rd (n := X0.length) rfl
  have s2 := hb.size
  have B2 := B1.trans (hb.mono B1.size)
  have Q_t1 := hr
  clear hr hb
  go_wp2_with fail
  refine (toPairS_any (X := Y1) (Lib.hid rfl) (by omega) ((R1.below B2).more (by omega))).mono ?_
  rintro e w3 ⟨v, rfl, hr, hb⟩
  obtain ⟨E4, k4, rfl, _, hk4, hm4⟩ := hr.rd (n := Y1.length) rfl
  have s3 := hb.size
  replace Q_t1 := Q_t1.new hb
  have B3 := B2.trans (hb.mono B2.size)
  have Q_t3 := hr
  clear hr hb
  go_wp2_with fail
  refine ((HS.out w3 _ _ _ _ (by omega) hs0 (by omega) (by omega) (by assumption) (Q_t1.rd'.more (by omega)) (by omega) (by omega) (by assumption) (Q_t3.rd'.more (by omega)))).mono ?_
  rintro e w4 ⟨rfl, hb⟩
  clear Q_t1
  clear Q_t3
  have s4 := hb.size
  have B4 := B3.trans (hb.mono B3.size)
  clear hb
  go_wp2_with fail
  refine (toTeamS_any (X := X0) (Lib.hid rfl) (by omega) (Lib.hid (fun x hx => Nat.le_trans (hs0.out x hx) (by omega))) ((R0.below B4).more (by omega))).mono ?_
  rintro e w5 ⟨v, rfl, hr, hb⟩
  obtain ⟨E5, k5, rfl, _, hk5, hm5⟩ := hr.rd (n := X0.length) rfl
  have s5 := hb.size
  have B5 := B4.trans (hb.mono B4.size)
  have Q_x0 := hr
  clear hr hb
  go_wp2_with fail
  refine (toPairS_any (X := Y1) (Lib.hid rfl) (by omega) ((R1.below B5).more (by omega))).mono ?_
  rintro e w6 ⟨v, rfl, hr, hb⟩
  obtain ⟨E6, k6, rfl, _, hk6, hm6⟩ := hr.rd (n := Y1.length) rfl
  have s6 := hb.size
  replace Q_x0 := Q_x0.new hb
  have B6 := B5.trans (hb.mono B5.size)
  have Q_x1 := hr
  clear hr hb
  go_wp2_with fail
  refine ((HI.out w6 _ _ _ _ (by omega) hs0 (by omega) (by omega) (by assumption) (Q_x0.rd'.more (by omega)) (by omega) (by omega) (by assumption) (Q_x1.rd'.more (by omega)))).mono ?_
  rintro e w7 ⟨rfl, hb⟩
  have s7 := hb.size
  replace Q_x0 := Q_x0.new hb
  replace Q_x1 := Q_x1.new hb
  have B7 := B6.trans (hb.mono B6.size)
  clear hb
  go_wp2_with fail
  refine (toTeamS_any (X := X0) (Lib.hid rfl) (by omega) (Lib.hid (fun x hx => Nat.le_trans (hs0.out x hx) (by omega))) ((R0.below B7).more (by omega))).mono ?_
  rintro e w8 ⟨v, rfl, hr, hb⟩
  obtain ⟨E8, k8, rfl, _, hk8, hm8⟩ := hr.rd (n := X0.length) rfl
  have s8 := hb.size
  replace Q_x0 := Q_x0.new hb
  replace Q_x1 := Q_x1.new hb
  have B8 := B7.trans (hb.mono B7.size)
  have Q_t7 := hr
  clear hr hb
  go_wp2_with fail
  refine (eqTeamS_same (X := X0) (Lib.hid rfl) (by omega) (Lib.hid (fun x hx => Nat.le_trans (hs0.out x hx) (by omega))) (Q_x0.rd'.more (by omega)) (Q_t7.rd'.more (by omega))).mono ?_
  rintro e w9 ⟨he, hb⟩
  subst he
  clear Q_t7
  have s9 := hb.size
  replace Q_x0 := Q_x0.new hb
  replace Q_x1 := Q_x1.new hb
  have B9 := B8.trans (hb.mono B8.size)
  clear hb
  go_wp2_with fail
  refine (toPairS_any (X := Y1) (Lib.hid rfl) (by omega) ((R1.below B9).more (by omega))).mono ?_
  rintro e w10 ⟨v, rfl, hr, hb⟩
  obtain ⟨E10, k10, rfl, _, hk10, hm10⟩ := hr.rd (n := Y1.length) rfl
  have s10 := hb.size
  replace Q_x0 := Q_x0.new hb
  replace Q_x1 := Q_x1.new hb
  have B10 := B9.trans (hb.mono B9.size)
  have Q_t9 := hr
  clear hr hb
  go_wp2_with fail
  refine (eqPairS_any (X := Y1) (Y := Y1) (Lib.hid rfl) (Lib.hid rfl) (by omega) (by omega) (Q_x1.rd'.more (by omega)) (Q_t9.rd'.more (by omega))).mono ?_
  rintro e w11 ⟨he, hb⟩
  rw [show decide (Y1 = Y1) = true from decide_eq_true rfl] at he
  subst he
  clear Q_t9
  have s11 := hb.size
  replace Q_x0 := Q_x0.new hb
  replace Q_x1 := Q_x1.new hb
  have B11 := B10.trans (hb.mono B10.size)
  clear hb
  go_wp2_with fail
  go_ret
  exact ⟨rfl, B11⟩
theorem contract (H : Type) (enc : TypeId × Value → H) (W : World) (base : Nat) (args : Array Value) (ds gs : List (DataW H)) (before : List MemPlace)
    (hval : ∀ (j : Nat) t v, Try.f11.params[j]? = some t → args[j]? = some v → Value.okWide Try.prog W .any base t v)
    (hW : DataW.Whole enc Try.prog Try.f11.params.toList Rows.fnExactIsRoundSpec.vars false W args.toList ds gs before) (hL : laidMetH Try.prog Rows.fnExactIsRoundRow.laid W)
    (hreach : (DataW.weightsEach Try.prog (Try.f11.params.toList ++ (OpenSpec.ofChange Rows.fnExactIsRoundSpec).bare.plain.varTypes Try.prog) (ds ++ gs)).all (· ≤ reachBytes) = true) :
    Calls Try.prog 11 args W fun e W' => ∃ v, e = .returned v ∧ Rows.fnExactIsRoundSpec.post enc Try.prog Try.f11 false true false false W args v W' := by
  have hW' := hW
  obtain ⟨p, q, hA0, hV, rfl, hfz, hnd⟩ := hW
  have hA : DataW.TrodAll enc Try.prog W 0 (fun _ => true) true Try.f11.params.toList args.toList ds p := hA0
  rw [Try.params11] at hA hval
  obtain ⟨v0, vs0, d0, ds0, p0, q0, hargs, rfl, rfl, h0, r0⟩ := trodAll_cons hA
  obtain ⟨v1, vs1, d1, ds1, p1, q1, rfl, rfl, rfl, h1, r1⟩ := trodAll_cons r0
  obtain ⟨rfl, rfl, rfl⟩ := trodAll_nil r1
  obtain rfl : args = #[v0, v1] := by cases args; simp_all
  obtain ⟨rfl, rfl⟩ := trodVars_none hV
  obtain ⟨A0, c0, X0, rfl, R0, hc0, hm0, hb0⟩ := slice_openT Try.underlying27 Try.underlying81 (by kernel_rfl : Try.prog.cellsOf 81 = 6) rfl rfl rfl rfl rfl rfl Try.underlying3 Try.underlying3 Try.underlying3 Try.underlying3 Try.underlying3 Try.underlying45 Try.underlying3 (by kernel_rfl : Try.prog.cellsOf 3 = 1) (by kernel_rfl) (by kernel_rfl) (by kernel_rfl) (by kernel_rfl) (by kernel_rfl) (by kernel_rfl) (hval 0 27 v0 rfl rfl) h0
  obtain ⟨A1, c1, Y1, rfl, R1, hc1, hm1, hb1⟩ := slice_open2 Try.underlying54 Try.underlying108 (by kernel_rfl : Try.prog.cellsOf 108 = 2) rfl rfl Try.underlying3 Try.underlying3 (by kernel_rfl) (by kernel_rfl) (hval 1 54 v1 rfl rfl) h1
  clear hA0 hval
  have walked : Calls Try.prog 11 #[.slice A0 X0.length c0, .slice A1 Y1.length c1] W fun e W' => e = .returned (.bool true) ∧ Below W.heap.size W W' := by
    exact core (x0 := irB X0 Y1) R0 hc0 hm0 R1 hc1 hm1 (fun w B d B1 d1 hz hs hp hd hm hr hz1 hd1 hm1 hr1 => specIsRound_any (Lib.hid rfl) (by omega) hs hr (Lib.hid rfl) (by omega) hr1) (fun w B d B1 d1 hz hs hp hd hm hr hz1 hd1 hm1 hr1 => impIsRound_any (Lib.hid rfl) (by omega) hs hr (Lib.hid rfl) (by omega) hr1 (Lib.hid hb0) (Lib.hid hb1))
  refine walked.mono fun e W' ⟨he, hb⟩ => ?_
  exact ⟨_, he, post_true (tb := 4) hW' rfl Try.underlying4 rfl rfl (by kernel_rfl) (by kernel_rfl) hb⟩
noncomputable def laidWorld (os : Os) : World := World.holding Try.prog os ⟨#[], #[], []⟩
theorem laid_met (os : Os) : laidMet Try.prog Rows.fnExactIsRoundRow.laid ((laidWorld os).forCall (fun _ _ => 0) ⟨#[], #[Value.slice none 0 0, Value.slice none 0 0], []⟩).memory :=
  laidMet_of_run' 8 (by kernel_rfl) (by kernel_rfl)
theorem reads (os : Os) {H : Type} (enc : TypeId × Value → H) : ∃ places, DataW.whole enc Try.prog ((laidWorld os).forCall (fun _ _ => 0) ⟨#[], #[Value.slice none 0 0, Value.slice none 0 0], []⟩).memory Try.f11.params.toList Rows.fnExactIsRoundSpec.vars false (#[Value.slice none 0 0, Value.slice none 0 0]).toList 8 = some ([.nil, .nil], [], places) :=
  ⟨[], by kernel_rfl⟩
set_option maxRecDepth 100000 in
theorem lifted (os : Os) (started : os.Started) (H : Type) (enc : TypeId × Value → H) (F : Stop.Interp) :
    ReturnsInHanded {} Try.checked os 11 .any ((OpenSpec.ofChange Rows.fnExactIsRoundSpec).preRow enc Try.prog Try.f11 Rows.fnExactIsRoundRow.domain false Rows.fnExactIsRoundRow.laid) (((OpenSpec.ofChange Rows.fnExactIsRoundSpec).at F).post enc Try.prog Try.f11 false true false false) := by
  obtain ⟨places, hx⟩ := reads os enc
  refine returnsInHanded_of_row (C := Try.checked) (s := (OpenSpec.ofChange Rows.fnExactIsRoundSpec)) own started (by kernel_rfl) Try.func11
    (witness_row_at (enc := enc) (C := Try.checked) false (laidWorld os) #[Value.slice none 0 0, Value.slice none 0 0] rfl (by kernel_rfl) (by kernel_rfl) (by kernel_rfl)
      (OpenSpec.preRow_of_cond 8 hx (by kernel_rfl) (fun k hk => by cases hk) (by kernel_rfl) (laid_met os))) ?_
  intro W base args ds gs before hval hW _ hcond hreach hL _ _
  exact contract H enc W base args ds gs before hval hW hL hreach
theorem said : Rows.FnExactIsRoundSaid :=
  OpenClaim.holds_of_cond 11 Try.f11 rfl rfl rfl rfl rfl rfl rfl ⟨rfl, rfl, rfl, rfl, rfl⟩ rfl rfl rfl rfl rfl (by kernel_rfl) Try.func11 (by kernel_rfl)
    (of_decide_eq_true (by kernel_rfl)) (by unfold Func.isWrapper; first | (rw [if_pos (by decide +kernel)]; kernel_rfl) | (rw [if_neg (by decide +kernel)]; exact ⟨rfl, rfl⟩))
    (fun os started H enc _ F => by rw [OpenClaim.pre_eq_preRow]; exact lifted os started H enc F)
#print axioms said
end Go.Proofs.Ythkigilegnjglaa.fnExactIsRound
