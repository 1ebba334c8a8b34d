/- Proves the given statement of the law 'FnExactAreSeated': at every input that the statement admits, the law returns true and leaves its arguments as they were. Conditions: those of the given row, no other. -/
import Derived.Test.YthkigilegnjglaaRows
import Derived.LaidHandle
import Derived.LaidLaws
import Derived.Stop.Joined
import Derived.Stop.LaidErr
import Derived.ChangeMaps5
import Derived.WalkKit
import Derived.ProofKit
import Derived.OpenShut
import Derived.Deep.DeepHandedRow
import Derived.Lib.LaidTab
import Derived.Deep.RegionHeld3
import Derived.Test.YthkigilegnjglaaMg0
import Derived.Test.YthkigilegnjglaaAsC
import Derived.Test.YthkigilegnjglaaAsM
import Derived.Test.YthkigilegnjglaaPairB
import Derived.Test.YthkigilegnjglaaPairC
import Derived.Test.YthkigilegnjglaaTeamC
import Derived.Test.YthkigilegnjglaaTeamO
import Derived.Test.YthkigilegnjglaaJudgeC
import Derived.Test.YthkigilegnjglaaJudgeO
import Derived.Test.YthkigilegnjglaaOpen
import Derived.Test.YthkigilegnjglaaMg2
import Derived.Test.YthkigilegnjglaaMg4
namespace Go.Proofs.Ythkigilegnjglaa.fnExactAreSeated
open Go.ChangeShapes Go.WideShapes Go.ChangeAt Go.RowKit
set_option linter.unusedVariables false
set_option maxRecDepth 100000
theorem own : ownKnob Try.prog.godebug = none := by kernel_rfl
theorem ucells : Try.prog.cellsOf 5 = 1 := by kernel_rfl
set_option maxHeartbeats 4000000 in
set_option maxRecDepth 100000 in
theorem core {W : World} {A0 : Option Addr} {c0 : Nat} {X0 : List Tm} (R0 : RdT W W.heap.size A0 X0) (hc0 : X0.length ≤ c0) (hm0 : c0 ≤ maxLen) {A1 : Option Addr} {c1 : Nat} {X1 : List Jd} (R1 : RdJ W W.heap.size A1 X1) (hc1 : X1.length ≤ c1) (hm1 : c1 ≤ maxLen) {A2 : Option Addr} {c2 : Nat} {Y2 : List T2} (R2 : Rd W W.heap.size A2 (t2s Y2)) (hc2 : Y2.length ≤ c2) (hm2 : c2 ≤ maxLen) {A3 : Option Addr} {c3 : Nat} {z3 : List Int} (R3 : Rd W W.heap.size A3 (ivs z3)) (hc3 : z3.length ≤ c3) {x0 : Bool}
    (hS : ∀ (w : World) (B0 : Option Addr) (d0 : Nat) (B1 : Option Addr) (d1 : Nat) (B2 : Option Addr) (d2 : Nat) (B3 : Option Addr) (d3 : Nat), X0.length ≤ 1048576 → Hid (∀ x ∈ X0, x.met.length ≤ 1048576) → psum (X0.map Tm.met) X0.length ≤ 1048576 → X0.length ≤ d0 → d0 ≤ maxLen → RdT w w.heap.size B0 X0 → X1.length ≤ 1048576 → Hid (∀ x ∈ X1, x.seen.length ≤ 1048576) → psum (X1.map Jd.seen) X1.length ≤ 1048576 → X1.length ≤ d1 → d1 ≤ maxLen → RdJ w w.heap.size B1 X1 → Y2.length ≤ 1048576 → Y2.length ≤ d2 → d2 ≤ maxLen → Rd w w.heap.size B2 (t2s Y2) → z3.length ≤ 1048576 → z3.length ≤ d3 → d3 ≤ maxLen → Rd w w.heap.size B3 (ivs z3) → Calls Try.prog 58 #[.slice B0 X0.length d0, .slice B1 X1.length d1, .slice B2 Y2.length d2, .slice B3 z3.length d3] w (fun e w' => e = .returned (.bool x0) ∧ Below w.heap.size w w'))
    (hI : ∀ (w : World) (B0 : Option Addr) (d0 : Nat) (B1 : Option Addr) (d1 : Nat) (B2 : Option Addr) (d2 : Nat) (B3 : Option Addr) (d3 : Nat), X0.length ≤ 1048576 → Hid (∀ x ∈ X0, x.met.length ≤ 1048576) → psum (X0.map Tm.met) X0.length ≤ 1048576 → X0.length ≤ d0 → d0 ≤ maxLen → RdT w w.heap.size B0 X0 → X1.length ≤ 1048576 → Hid (∀ x ∈ X1, x.seen.length ≤ 1048576) → psum (X1.map Jd.seen) X1.length ≤ 1048576 → X1.length ≤ d1 → d1 ≤ maxLen → RdJ w w.heap.size B1 X1 → Y2.length ≤ 1048576 → Y2.length ≤ d2 → d2 ≤ maxLen → Rd w w.heap.size B2 (t2s Y2) → z3.length ≤ 1048576 → z3.length ≤ d3 → d3 ≤ maxLen → Rd w w.heap.size B3 (ivs z3) → Calls Try.prog 60 #[.slice B0 X0.length d0, .slice B1 X1.length d1, .slice B2 Y2.length d2, .slice B3 z3.length d3] w (fun e w' => e = .returned (.bool x0) ∧ Below w.heap.size w w')) :
    Calls Try.prog 14 #[.slice A0 X0.length c0, .slice A1 X1.length c1, .slice A2 Y2.length c2, .slice A3 z3.length c3] W (fun e W' => e = .returned (.bool true) ∧ Below W.heap.size W W') := by
  have HS := Lib.hid hS
  have HI := Lib.hid hI
  clear hS hI
  have early : Below W.heap.size W W := (Below.refl _ _)
  by_cases hz3 : 1048576 < z3.length
  · go_enter Try.func14, Try.ntmps14
    go_wp2_with fail
    go_ret
    exact ⟨rfl, early⟩
  have hy3 : z3.length ≤ 1048576 := by omega
  clear hz3
  clear early
  have B0 : Below W.heap.size W W := Below.refl _ _
  go_enter Try.func14, Try.ntmps14
  go_wp2_with fail
  refine (szTeamS_any (q := 1048576) (X := X0) (Lib.hid rfl) (by unfold maxLen at hm0; omega) (by omega) (by omega) ((R0.below B0).more (by omega))).mono ?_
  rintro e w1 ⟨r_0, rfl, hb, hr⟩
  have s1 := hb.size
  have B1 := B0.trans (hb.mono B0.size)
  clear hb
  rcases hr with rfl | ⟨hr_0, hsz⟩
  · go_wp2_with fail
    go_ret
    exact ⟨rfl, B1⟩
  have hy0 : X0.length ≤ 1048576 := by omega
  have hp0 : psum (X0.map Tm.met) X0.length ≤ 1048576 := by omega
  have hs0 : Hid (∀ x ∈ X0, x.met.length ≤ 1048576) := Lib.hid (fun x hx => by obtain ⟨i, hi, rfl⟩ := List.getElem_of_mem hx; exact Nat.le_trans (Tm_mets_mem hi) hp0)
  have hq_0 : r_0 ≤ 1048576 := by omega
  clear hsz
  go_wp2_with fail
  refine (szJudgeS_any (q := r_0) (X := X1) (Lib.hid rfl) (by unfold maxLen at hm1; omega) (by omega) (by omega) ((R1.below B1).more (by omega))).mono ?_
  rintro e w2 ⟨r_1, rfl, hb, hr⟩
  have s2 := hb.size
  have B2 := B1.trans (hb.mono B1.size)
  clear hb
  rcases hr with rfl | ⟨hr_1, hsz⟩
  · go_wp2_with fail
    go_ret
    exact ⟨rfl, B2⟩
  have hy1 : X1.length ≤ 1048576 := by omega
  have hp1 : psum (X1.map Jd.seen) X1.length ≤ 1048576 := by omega
  have hs1 : Hid (∀ x ∈ X1, x.seen.length ≤ 1048576) := Lib.hid (fun x hx => by obtain ⟨i, hi, rfl⟩ := List.getElem_of_mem hx; exact Nat.le_trans (Jd_mets_mem hi) hp1)
  have hq_1 : r_1 ≤ 1048576 := by omega
  clear hsz
  go_wp2_with fail
  refine (szPairS_any (q := r_1) (by unfold maxLen at hm2; omega) (by omega) (by omega)).mono ?_
  rintro e u2 ⟨rfl, rfl⟩
  by_cases hz2 : r_1 < (Y2.length : Int)
  · rw [show szd r_1 Y2.length = -1 by unfold szd; rw [if_pos (by omega)]]
    go_wp2_with fail
    go_ret
    exact ⟨rfl, B2⟩
  have hy2 : Y2.length ≤ 1048576 := by omega
  rw [show szd r_1 Y2.length = r_1 - (Y2.length : Int) by unfold szd; rw [if_neg (by omega)]]
  obtain ⟨r_2, hrr⟩ : ∃ r : Int, r = r_1 - (Y2.length : Int) := ⟨_, rfl⟩
  rw [← hrr]
  have hq_2 : 0 ≤ r_2 ∧ r_2 ≤ 1048576 := by omega
  clear hrr hz2
  go_wp2_with fail
  refine (toTeamS_any (X := X0) (Lib.hid rfl) (by omega) (Lib.hid (fun x hx => Nat.le_trans (hs0.out x hx) (by omega))) ((R0.below B2).more (by omega))).mono ?_
  rintro e w3 ⟨v, rfl, hr, hb⟩
  obtain ⟨E2, k2, rfl, _, hk2, hm2⟩ := hr.rd (n := X0.length) rfl
  have s3 := hb.size
  have B3 := B2.trans (hb.mono B2.size)
  have Q_t1 := hr
  clear hr hb
  go_wp2_with fail
  refine (toJudgeS_any (X := X1) (Lib.hid rfl) (by omega) (Lib.hid (fun x hx => Nat.le_trans (hs1.out x hx) (by omega))) ((R1.below B3).more (by omega))).mono ?_
  rintro e w4 ⟨v, rfl, hr, hb⟩
  obtain ⟨E4, k4, rfl, _, hk4, hm4⟩ := hr.rd (n := X1.length) rfl
  have s4 := hb.size
  replace Q_t1 := Q_t1.new hb
  have B4 := B3.trans (hb.mono B3.size)
  have Q_t3 := hr
  clear hr hb
  go_wp2_with fail
  refine (toPairS_any (X := Y2) (Lib.hid rfl) (by omega) ((R2.below B4).more (by omega))).mono ?_
  rintro e w5 ⟨v, rfl, hr, hb⟩
  obtain ⟨E6, k6, rfl, _, hk6, hm6⟩ := hr.rd (n := Y2.length) rfl
  have s5 := hb.size
  replace Q_t1 := Q_t1.new hb
  replace Q_t3 := Q_t3.new hb
  have B5 := B4.trans (hb.mono B4.size)
  have Q_t5 := hr
  clear hr hb
  go_wp2_with fail
  refine (toIntS_any (zs := z3) (Lib.hid rfl) (by omega) ((R3.below B5).more (by omega))).mono ?_
  rintro e w6 ⟨v, rfl, hr, hb⟩
  obtain ⟨E8, k8, rfl, _, hk8, hm8⟩ := hr.rd (ivs_len z3)
  have s6 := hb.size
  replace Q_t1 := Q_t1.new hb
  replace Q_t3 := Q_t3.new hb
  replace Q_t5 := Q_t5.new hb
  have B6 := B5.trans (hb.mono B5.size)
  have Q_t7 := hr
  clear hr hb
  go_wp2_with fail
  refine ((HS.out w6 _ _ _ _ _ _ _ _ (by omega) hs0 (by omega) (by omega) (by assumption) (Q_t1.rd'.more (by omega)) (by omega) hs1 (by omega) (by omega) (by assumption) (Q_t3.rd'.more (by omega)) (by omega) (by omega) (by assumption) (Q_t5.rd'.more (by omega)) (by omega) (by omega) (by assumption) (Q_t7.rd'.more (by omega)))).mono ?_
  rintro e w7 ⟨rfl, hb⟩
  clear Q_t1
  clear Q_t3
  clear Q_t5
  clear Q_t7
  have s7 := hb.size
  have B7 := B6.trans (hb.mono B6.size)
  clear hb
  go_wp2_with fail
  refine (toTeamS_any (X := X0) (Lib.hid rfl) (by omega) (Lib.hid (fun x hx => Nat.le_trans (hs0.out x hx) (by omega))) ((R0.below B7).more (by omega))).mono ?_
  rintro e w8 ⟨v, rfl, hr, hb⟩
  obtain ⟨E9, k9, rfl, _, hk9, hm9⟩ := hr.rd (n := X0.length) rfl
  have s8 := hb.size
  have B8 := B7.trans (hb.mono B7.size)
  have Q_x0 := hr
  clear hr hb
  go_wp2_with fail
  refine (toJudgeS_any (X := X1) (Lib.hid rfl) (by omega) (Lib.hid (fun x hx => Nat.le_trans (hs1.out x hx) (by omega))) ((R1.below B8).more (by omega))).mono ?_
  rintro e w9 ⟨v, rfl, hr, hb⟩
  obtain ⟨E10, k10, rfl, _, hk10, hm10⟩ := hr.rd (n := X1.length) rfl
  have s9 := hb.size
  replace Q_x0 := Q_x0.new hb
  have B9 := B8.trans (hb.mono B8.size)
  have Q_x1 := hr
  clear hr hb
  go_wp2_with fail
  refine (toPairS_any (X := Y2) (Lib.hid rfl) (by omega) ((R2.below B9).more (by omega))).mono ?_
  rintro e w10 ⟨v, rfl, hr, hb⟩
  obtain ⟨E11, k11, rfl, _, hk11, hm11⟩ := hr.rd (n := Y2.length) rfl
  have s10 := hb.size
  replace Q_x0 := Q_x0.new hb
  replace Q_x1 := Q_x1.new hb
  have B10 := B9.trans (hb.mono B9.size)
  have Q_x2 := hr
  clear hr hb
  go_wp2_with fail
  refine (toIntS_any (zs := z3) (Lib.hid rfl) (by omega) ((R3.below B10).more (by omega))).mono ?_
  rintro e w11 ⟨v, rfl, hr, hb⟩
  obtain ⟨E12, k12, rfl, _, hk12, hm12⟩ := hr.rd (ivs_len z3)
  have s11 := hb.size
  replace Q_x0 := Q_x0.new hb
  replace Q_x1 := Q_x1.new hb
  replace Q_x2 := Q_x2.new hb
  have B11 := B10.trans (hb.mono B10.size)
  have Q_x3 := hr
  clear hr hb
  go_wp2_with fail
  refine ((HI.out w11 _ _ _ _ _ _ _ _ (by omega) hs0 (by omega) (by omega) (by assumption) (Q_x0.rd'.more (by omega)) (by omega) hs1 (by omega) (by omega) (by assumption) (Q_x1.rd'.more (by omega)) (by omega) (by omega) (by assumption) (Q_x2.rd'.more (by omega)) (by omega) (by omega) (by assumption) (Q_x3.rd'.more (by omega)))).mono ?_
  rintro e w12 ⟨rfl, hb⟩
  have s12 := hb.size
  replace Q_x0 := Q_x0.new hb
  replace Q_x1 := Q_x1.new hb
  replace Q_x2 := Q_x2.new hb
  replace Q_x3 := Q_x3.new hb
  have B12 := B11.trans (hb.mono B11.size)
  clear hb
  go_wp2_with fail
  refine (toTeamS_any (X := X0) (Lib.hid rfl) (by omega) (Lib.hid (fun x hx => Nat.le_trans (hs0.out x hx) (by omega))) ((R0.below B12).more (by omega))).mono ?_
  rintro e w13 ⟨v, rfl, hr, hb⟩
  obtain ⟨E14, k14, rfl, _, hk14, hm14⟩ := hr.rd (n := X0.length) rfl
  have s13 := hb.size
  replace Q_x0 := Q_x0.new hb
  replace Q_x1 := Q_x1.new hb
  replace Q_x2 := Q_x2.new hb
  replace Q_x3 := Q_x3.new hb
  have B13 := B12.trans (hb.mono B12.size)
  have Q_t13 := hr
  clear hr hb
  go_wp2_with fail
  refine (eqTeamS_same (X := X0) (Lib.hid rfl) (by omega) (Lib.hid (fun x hx => Nat.le_trans (hs0.out x hx) (by omega))) (Q_x0.rd'.more (by omega)) (Q_t13.rd'.more (by omega))).mono ?_
  rintro e w14 ⟨he, hb⟩
  subst he
  clear Q_t13
  have s14 := hb.size
  replace Q_x0 := Q_x0.new hb
  replace Q_x1 := Q_x1.new hb
  replace Q_x2 := Q_x2.new hb
  replace Q_x3 := Q_x3.new hb
  have B14 := B13.trans (hb.mono B13.size)
  clear hb
  go_wp2_with fail
  refine (toJudgeS_any (X := X1) (Lib.hid rfl) (by omega) (Lib.hid (fun x hx => Nat.le_trans (hs1.out x hx) (by omega))) ((R1.below B14).more (by omega))).mono ?_
  rintro e w15 ⟨v, rfl, hr, hb⟩
  obtain ⟨E16, k16, rfl, _, hk16, hm16⟩ := hr.rd (n := X1.length) rfl
  have s15 := hb.size
  replace Q_x0 := Q_x0.new hb
  replace Q_x1 := Q_x1.new hb
  replace Q_x2 := Q_x2.new hb
  replace Q_x3 := Q_x3.new hb
  have B15 := B14.trans (hb.mono B14.size)
  have Q_t15 := hr
  clear hr hb
  go_wp2_with fail
  refine (eqJudgeS_same (X := X1) (Lib.hid rfl) (by omega) (Lib.hid (fun x hx => Nat.le_trans (hs1.out x hx) (by omega))) (Q_x1.rd'.more (by omega)) (Q_t15.rd'.more (by omega))).mono ?_
  rintro e w16 ⟨he, hb⟩
  subst he
  clear Q_t15
  have s16 := hb.size
  replace Q_x0 := Q_x0.new hb
  replace Q_x1 := Q_x1.new hb
  replace Q_x2 := Q_x2.new hb
  replace Q_x3 := Q_x3.new hb
  have B16 := B15.trans (hb.mono B15.size)
  clear hb
  go_wp2_with fail
  refine (toPairS_any (X := Y2) (Lib.hid rfl) (by omega) ((R2.below B16).more (by omega))).mono ?_
  rintro e w17 ⟨v, rfl, hr, hb⟩
  obtain ⟨E18, k18, rfl, _, hk18, hm18⟩ := hr.rd (n := Y2.length) rfl
  have s17 := hb.size
  replace Q_x0 := Q_x0.new hb
  replace Q_x1 := Q_x1.new hb
  replace Q_x2 := Q_x2.new hb
  replace Q_x3 := Q_x3.new hb
  have B17 := B16.trans (hb.mono B16.size)
  have Q_t17 := hr
  clear hr hb
  go_wp2_with fail
  refine (eqPairS_any (X := Y2) (Y := Y2) (Lib.hid rfl) (Lib.hid rfl) (by omega) (by omega) (Q_x2.rd'.more (by omega)) (Q_t17.rd'.more (by omega))).mono ?_
  rintro e w18 ⟨he, hb⟩
  rw [show decide (Y2 = Y2) = true from decide_eq_true rfl] at he
  subst he
  clear Q_t17
  have s18 := hb.size
  replace Q_x0 := Q_x0.new hb
  replace Q_x1 := Q_x1.new hb
  replace Q_x2 := Q_x2.new hb
  replace Q_x3 := Q_x3.new hb
  have B18 := B17.trans (hb.mono B17.size)
  clear hb
  go_wp2_with fail
  refine (toIntS_any (zs := z3) (Lib.hid rfl) (by omega) ((R3.below B18).more (by omega))).mono ?_
  rintro e w19 ⟨v, rfl, hr, hb⟩
  obtain ⟨E20, k20, rfl, _, hk20, hm20⟩ := hr.rd (ivs_len z3)
  have s19 := hb.size
  replace Q_x0 := Q_x0.new hb
  replace Q_x1 := Q_x1.new hb
  replace Q_x2 := Q_x2.new hb
  replace Q_x3 := Q_x3.new hb
  have B19 := B18.trans (hb.mono B18.size)
  have Q_t19 := hr
  clear hr hb
  go_wp2_with fail
  refine (eqIntS_any (zs := z3) (ys := z3) (Lib.hid rfl) (Lib.hid rfl) (by omega) (by omega) (Q_x3.rd'.more (by omega)) (Q_t19.rd'.more (by omega))).mono ?_
  rintro e w20 ⟨he, hb⟩
  rw [show decide (z3 = z3) = true from decide_eq_true rfl] at he
  subst he
  clear Q_t19
  have s20 := hb.size
  replace Q_x0 := Q_x0.new hb
  replace Q_x1 := Q_x1.new hb
  replace Q_x2 := Q_x2.new hb
  replace Q_x3 := Q_x3.new hb
  have B20 := B19.trans (hb.mono B19.size)
  clear hb
  go_wp2_with fail
  go_ret
  exact ⟨rfl, B20⟩
theorem contract (H : Type) (enc : TypeId × Value → H) (W : World) (base : Nat) (args : Array Value) (ds gs : List (DataW H)) (before : List MemPlace)
    (hval : ∀ (j : Nat) t v, Try.f14.params[j]? = some t → args[j]? = some v → Value.okWide Try.prog W .any base t v)
    (hW : DataW.Whole enc Try.prog Try.f14.params.toList Rows.fnExactAreSeatedSpec.vars false W args.toList ds gs before) (hL : laidMetH Try.prog Rows.fnExactAreSeatedRow.laid W)
    (hreach : (DataW.weightsEach Try.prog (Try.f14.params.toList ++ (OpenSpec.ofChange Rows.fnExactAreSeatedSpec).bare.plain.varTypes Try.prog) (ds ++ gs)).all (· ≤ reachBytes) = true) :
    Calls Try.prog 14 args W fun e W' => ∃ v, e = .returned v ∧ Rows.fnExactAreSeatedSpec.post enc Try.prog Try.f14 false true false false W args v W' := by
  have hW' := hW
  obtain ⟨p, q, hA0, hV, rfl, hfz, hnd⟩ := hW
  have hA : DataW.TrodAll enc Try.prog W 0 (fun _ => true) true Try.f14.params.toList args.toList ds p := hA0
  rw [Try.params14] at hA hval
  obtain ⟨v0, vs0, d0, ds0, p0, q0, hargs, rfl, rfl, h0, r0⟩ := trodAll_cons hA
  obtain ⟨v1, vs1, d1, ds1, p1, q1, rfl, rfl, rfl, h1, r1⟩ := trodAll_cons r0
  obtain ⟨v2, vs2, d2, ds2, p2, q2, rfl, rfl, rfl, h2, r2⟩ := trodAll_cons r1
  obtain ⟨v3, vs3, d3, ds3, p3, q3, rfl, rfl, rfl, h3, r3⟩ := trodAll_cons r2
  obtain ⟨rfl, rfl, rfl⟩ := trodAll_nil r3
  obtain rfl : args = #[v0, v1, v2, v3] := by cases args; simp_all
  obtain ⟨rfl, rfl⟩ := trodVars_none hV
  obtain ⟨A0, c0, X0, rfl, R0, hc0, hm0, hb0⟩ := slice_openT Try.underlying27 Try.underlying81 (by kernel_rfl : Try.prog.cellsOf 81 = 6) rfl rfl rfl rfl rfl rfl Try.underlying3 Try.underlying3 Try.underlying3 Try.underlying3 Try.underlying3 Try.underlying45 Try.underlying3 (by kernel_rfl : Try.prog.cellsOf 3 = 1) (by kernel_rfl) (by kernel_rfl) (by kernel_rfl) (by kernel_rfl) (by kernel_rfl) (by kernel_rfl) (hval 0 27 v0 rfl rfl) h0
  obtain ⟨A1, c1, X1, rfl, R1, hc1, hm1, hb1⟩ := slice_openJ Try.underlying60 Try.underlying112 (by kernel_rfl : Try.prog.cellsOf 112 = 3) rfl rfl rfl Try.underlying3 Try.underlying3 Try.underlying45 Try.underlying3 (by kernel_rfl : Try.prog.cellsOf 3 = 1) (by kernel_rfl) (by kernel_rfl) (by kernel_rfl) (hval 1 60 v1 rfl rfl) h1
  obtain ⟨A2, c2, Y2, rfl, R2, hc2, hm2, hb2⟩ := slice_open2 Try.underlying54 Try.underlying108 (by kernel_rfl : Try.prog.cellsOf 108 = 2) rfl rfl Try.underlying3 Try.underlying3 (by kernel_rfl) (by kernel_rfl) (hval 2 54 v2 rfl rfl) h2
  obtain ⟨A3, c3, z3, rfl, R3, hc3, hm3, hb3⟩ := slice_open Try.underlying45 Try.underlying3 (by kernel_rfl : Try.prog.cellsOf 3 = 1) (hval 3 45 v3 rfl rfl) h3
  clear hA0 hval
  have walked : Calls Try.prog 14 #[.slice A0 X0.length c0, .slice A1 X1.length c1, .slice A2 Y2.length c2, .slice A3 z3.length c3] W fun e W' => e = .returned (.bool true) ∧ Below W.heap.size W W' := by
    exact core (x0 := asB X0 X1 Y2 z3) R0 hc0 hm0 R1 hc1 hm1 R2 hc2 hm2 R3 hc3 (fun w B d B1 d1 B2 d2 B3 d3 hz hs hp hd hm hr hz1 hs1 hp1 hd1 hm1 hr1 hz2 hd2 hm2 hr2 hz3 hd3 hm3 hr3 => specAreSeated_any (Lib.hid rfl) (by omega) hr (Lib.hid rfl) (by omega) hs1 hr1 (Lib.hid rfl) (by omega) hr2 (Lib.hid rfl) (by omega) hr3 hd3) (fun w B d B1 d1 B2 d2 B3 d3 hz hs hp hd hm hr hz1 hs1 hp1 hd1 hm1 hr1 hz2 hd2 hm2 hr2 hz3 hd3 hm3 hr3 => impAreSeated_any (Lib.hid rfl) (by omega) hr (Lib.hid rfl) (by omega) hs1 hr1 (Lib.hid rfl) (by omega) hr2 (Lib.hid rfl) (by omega) hr3 (Lib.hid fun x hx => (hb0 x hx).1) (Lib.hid hb2) (Lib.hid hb3))
  refine walked.mono fun e W' ⟨he, hb⟩ => ?_
  exact ⟨_, he, post_true (tb := 4) hW' rfl Try.underlying4 rfl rfl (by kernel_rfl) (by kernel_rfl) hb⟩
noncomputable def laidWorld (os : Os) : World := World.holding Try.prog os ⟨#[], #[], []⟩
theorem laid_met (os : Os) : laidMet Try.prog Rows.fnExactAreSeatedRow.laid ((laidWorld os).forCall (fun _ _ => 0) ⟨#[], #[Value.slice none 0 0, Value.slice none 0 0, Value.slice none 0 0, Value.slice none 0 0], []⟩).memory :=
  laidMet_of_run' 8 (by kernel_rfl) (by kernel_rfl)
theorem reads (os : Os) {H : Type} (enc : TypeId × Value → H) : ∃ places, DataW.whole enc Try.prog ((laidWorld os).forCall (fun _ _ => 0) ⟨#[], #[Value.slice none 0 0, Value.slice none 0 0, Value.slice none 0 0, Value.slice none 0 0], []⟩).memory Try.f14.params.toList Rows.fnExactAreSeatedSpec.vars false (#[Value.slice none 0 0, Value.slice none 0 0, Value.slice none 0 0, Value.slice none 0 0]).toList 8 = some ([.nil, .nil, .nil, .nil], [], places) :=
  ⟨[], by kernel_rfl⟩
set_option maxRecDepth 100000 in
theorem lifted (os : Os) (started : os.Started) (H : Type) (enc : TypeId × Value → H) (F : Stop.Interp) :
    ReturnsInHanded {} Try.checked os 14 .any ((OpenSpec.ofChange Rows.fnExactAreSeatedSpec).preRow enc Try.prog Try.f14 Rows.fnExactAreSeatedRow.domain false Rows.fnExactAreSeatedRow.laid) (((OpenSpec.ofChange Rows.fnExactAreSeatedSpec).at F).post enc Try.prog Try.f14 false true false false) := by
  obtain ⟨places, hx⟩ := reads os enc
  refine returnsInHanded_of_row (C := Try.checked) (s := (OpenSpec.ofChange Rows.fnExactAreSeatedSpec)) own started (by kernel_rfl) Try.func14
    (witness_row_at (enc := enc) (C := Try.checked) false (laidWorld os) #[Value.slice none 0 0, Value.slice none 0 0, Value.slice none 0 0, Value.slice none 0 0] rfl (by kernel_rfl) (by kernel_rfl) (by kernel_rfl)
      (OpenSpec.preRow_of_cond 8 hx (by kernel_rfl) (fun k hk => by cases hk) (by kernel_rfl) (laid_met os))) ?_
  intro W base args ds gs before hval hW _ hcond hreach hL _ _
  exact contract H enc W base args ds gs before hval hW hL hreach
theorem said : Rows.FnExactAreSeatedSaid :=
  OpenClaim.holds_of_cond 14 Try.f14 rfl rfl rfl rfl rfl rfl rfl ⟨rfl, rfl, rfl, rfl, rfl⟩ rfl rfl rfl rfl rfl (by kernel_rfl) Try.func14 (by kernel_rfl)
    (of_decide_eq_true (by kernel_rfl)) (by unfold Func.isWrapper; first | (rw [if_pos (by decide +kernel)]; kernel_rfl) | (rw [if_neg (by decide +kernel)]; exact ⟨rfl, rfl⟩))
    (fun os started H enc _ F => by rw [OpenClaim.pre_eq_preRow]; exact lifted os started H enc F)
#print axioms said
end Go.Proofs.Ythkigilegnjglaa.fnExactAreSeated
