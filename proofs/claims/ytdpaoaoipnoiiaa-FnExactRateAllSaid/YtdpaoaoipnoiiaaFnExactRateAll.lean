/- Proves the given statement of the law 'FnExactRateAll': at every input that the statement admits, the law returns true and leaves its arguments as they were. Conditions: those of the given row, no other. -/
import Derived.Test.YtdpaoaoipnoiiaaRows
import Derived.LaidHandle
import Derived.LaidLaws
import Derived.Stop.Joined
import Derived.Stop.LaidErr
import Derived.ChangeMaps5
import Derived.WalkKit
import Derived.ProofKit
import Derived.OpenShut
import Derived.Deep.DeepHandedRow
import Derived.Lib.LaidTab
import Derived.Deep.RegionHeld3
import Derived.Test.YtdpaoaoipnoiiaaBase
import Derived.Test.YtdpaoaoipnoiiaaRtaM
import Derived.Test.YtdpaoaoipnoiiaaIntSS
import Derived.Test.YtdpaoaoipnoiiaaOpen
import Derived.Test.YtdpaoaoipnoiiaaGraph
namespace Go.Proofs.Ytdpaoaoipnoiiaa.fnExactRateAll
open Go.ChangeShapes Go.WideShapes Go.ChangeAt Go.RowKit
set_option linter.unusedVariables false
set_option maxRecDepth 100000
theorem own : ownKnob Try.prog.godebug = none := by kernel_rfl
theorem ucells : Try.prog.cellsOf 5 = 1 := by kernel_rfl
set_option maxHeartbeats 4000000 in
set_option maxRecDepth 100000 in
theorem core {W : World} {A0 : Option Addr} {c0 : Nat} {z0 : List Int} (R0 : Rd W W.heap.size A0 (ivs z0)) (hc0 : z0.length ≤ c0) {A1 : Option Addr} {c1 : Nat} {X1 : List (List Int)} (R1 : RdSS W W.heap.size A1 X1) (hc1 : X1.length ≤ c1) (hm1 : c1 ≤ maxLen) {r0 : List Int} (hr0 : r0.length ≤ 140000000)
    (hS : ∀ (w : World) (B0 : Option Addr) (d0 : Nat) (B1 : Option Addr) (d1 : Nat), z0.length ≤ 1048576 → z0.length ≤ d0 → d0 ≤ maxLen → Rd w w.heap.size B0 (ivs z0) → X1.length ≤ 1048576 → Hid (∀ x ∈ X1, x.length ≤ 1048576) → psum X1 X1.length ≤ 1048576 → X1.length ≤ d1 → d1 ≤ maxLen → RdSS w w.heap.size B1 X1 → Calls Try.prog 35 #[.slice B0 z0.length d0, .slice B1 X1.length d1] w (fun e w' => ∃ v0 : Value, e = .returned (v0) ∧ Row w' w.heap.size w'.heap.size 3 v0 (ivs r0) ∧ Below w.heap.size w w'))
    (hI : ∀ (w : World) (B0 : Option Addr) (d0 : Nat) (B1 : Option Addr) (d1 : Nat), z0.length ≤ 1048576 → z0.length ≤ d0 → d0 ≤ maxLen → Rd w w.heap.size B0 (ivs z0) → X1.length ≤ 1048576 → Hid (∀ x ∈ X1, x.length ≤ 1048576) → psum X1 X1.length ≤ 1048576 → X1.length ≤ d1 → d1 ≤ maxLen → RdSS w w.heap.size B1 X1 → Calls Try.prog 20 #[.slice B0 z0.length d0, .slice B1 X1.length d1] w (fun e w' => ∃ v0 : Value, e = .returned (v0) ∧ Row w' w.heap.size w'.heap.size 3 v0 (ivs r0) ∧ Below w.heap.size w w')) :
    Calls Try.prog 8 #[.slice A0 z0.length c0, .slice A1 X1.length c1] W (fun e W' => e = .returned (.bool true) ∧ Below W.heap.size W W') := by
  have HS := Lib.hid hS
  have HI := Lib.hid hI
  clear hS hI
  have early : Below W.heap.size W W := (Below.refl _ _)
  by_cases hz0 : 1048576 < z0.length
  · go_enter Try.func8, Try.ntmps8
    go_wp2_with fail
    go_ret
    exact ⟨rfl, early⟩
  have hy0 : z0.length ≤ 1048576 := by omega
  clear hz0
  clear early
  have B0 : Below W.heap.size W W := Below.refl _ _
  go_enter Try.func8, Try.ntmps8
  go_wp2_with fail
  refine (szIntSS_any (q := 1048576) (X := X1) (Lib.hid rfl) (by unfold maxLen at hm1; omega) (by omega) (by omega) ((R1.below B0).more (by omega))).mono ?_
  rintro e w1 ⟨r_1, rfl, hb, hr⟩
  have s1 := hb.size
  have B1 := B0.trans (hb.mono B0.size)
  clear hb
  rcases hr with rfl | ⟨hr_1, hsz⟩
  · go_wp2_with fail
    go_ret
    exact ⟨rfl, B1⟩
  have hy1 : X1.length ≤ 1048576 := by omega
  have hp1 : psum X1 X1.length ≤ 1048576 := by omega
  have hs1 : Hid (∀ x ∈ X1, x.length ≤ 1048576) := Lib.hid (fun x hx => Nat.le_trans (psum_mem X1 x hx) hp1)
  have hq_1 : r_1 ≤ 1048576 := by omega
  clear hsz
  go_wp2_with fail
  refine (toIntS_any (zs := z0) (Lib.hid rfl) (by omega) ((R0.below B1).more (by omega))).mono ?_
  rintro e w2 ⟨v, rfl, hr, hb⟩
  obtain ⟨E2, k2, rfl, _, hk2, hm2⟩ := hr.rd (ivs_len z0)
  have s2 := hb.size
  have B2 := B1.trans (hb.mono B1.size)
  have Q_t1 := hr
  clear hr hb
  go_wp2_with fail
  refine (toIntSS_any (X := X1) (Lib.hid rfl) (by omega) (Lib.hid (fun x hx => Nat.le_trans (hs1.out x hx) (by omega))) ((R1.below B2).more (by omega))).mono ?_
  rintro e w3 ⟨v, rfl, hr, hb⟩
  obtain ⟨E4, k4, rfl, _, hk4, hm4⟩ := hr.rd (n := X1.length) rfl
  have s3 := hb.size
  replace Q_t1 := Q_t1.new hb
  have B3 := B2.trans (hb.mono B2.size)
  have Q_t3 := hr
  clear hr hb
  go_wp2_with fail
  refine ((HS.out w3 _ _ _ _ (by omega) (by omega) (by assumption) (Q_t1.rd'.more (by omega)) (by omega) hs1 (by omega) (by omega) (by assumption) (Q_t3.rd'.more (by omega)))).mono ?_
  rintro e w4 ⟨v, rfl, hr, hb⟩
  obtain ⟨E5, k5, rfl, _, hk5, hm5⟩ := hr.rd (ivs_len r0)
  clear Q_t1
  clear Q_t3
  have s4 := hb.size
  have B4 := B3.trans (hb.mono B3.size)
  have Q_w0 := hr
  clear hr
  clear hb
  go_wp2_with fail
  refine (toIntS_any (zs := z0) (Lib.hid rfl) (by omega) ((R0.below B4).more (by omega))).mono ?_
  rintro e w5 ⟨v, rfl, hr, hb⟩
  obtain ⟨E6, k6, rfl, _, hk6, hm6⟩ := hr.rd (ivs_len z0)
  have s5 := hb.size
  replace Q_w0 := Q_w0.new hb
  have B5 := B4.trans (hb.mono B4.size)
  have Q_x0 := hr
  clear hr hb
  go_wp2_with fail
  refine (toIntSS_any (X := X1) (Lib.hid rfl) (by omega) (Lib.hid (fun x hx => Nat.le_trans (hs1.out x hx) (by omega))) ((R1.below B5).more (by omega))).mono ?_
  rintro e w6 ⟨v, rfl, hr, hb⟩
  obtain ⟨E7, k7, rfl, _, hk7, hm7⟩ := hr.rd (n := X1.length) rfl
  have s6 := hb.size
  replace Q_w0 := Q_w0.new hb
  replace Q_x0 := Q_x0.new hb
  have B6 := B5.trans (hb.mono B5.size)
  have Q_x1 := hr
  clear hr hb
  go_wp2_with fail
  refine ((HI.out w6 _ _ _ _ (by omega) (by omega) (by assumption) (Q_x0.rd'.more (by omega)) (by omega) hs1 (by omega) (by omega) (by assumption) (Q_x1.rd'.more (by omega)))).mono ?_
  rintro e w7 ⟨v, rfl, hr, hb⟩
  obtain ⟨E8, k8, rfl, _, hk8, hm8⟩ := hr.rd (ivs_len r0)
  have s7 := hb.size
  replace Q_w0 := Q_w0.new hb
  replace Q_x0 := Q_x0.new hb
  replace Q_x1 := Q_x1.new hb
  have B7 := B6.trans (hb.mono B6.size)
  have Q_g0 := hr
  clear hr
  clear hb
  go_wp2_with fail
  refine (eqIntS_any (zs := r0) (ys := r0) (Lib.hid rfl) (Lib.hid rfl) (by omega) (by omega) (Q_g0.rd'.more (by omega)) (Q_w0.rd'.more (by omega))).mono ?_
  rintro e w8 ⟨he, hb⟩
  rw [show decide (r0 = r0) = true from decide_eq_true rfl] at he
  subst he
  have s8 := hb.size
  replace Q_w0 := Q_w0.new hb
  replace Q_x0 := Q_x0.new hb
  replace Q_x1 := Q_x1.new hb
  replace Q_g0 := Q_g0.new hb
  have B8 := B7.trans (hb.mono B7.size)
  clear hb
  go_wp2_with fail
  refine (toIntS_any (zs := z0) (Lib.hid rfl) (by omega) ((R0.below B8).more (by omega))).mono ?_
  rintro e w9 ⟨v, rfl, hr, hb⟩
  obtain ⟨E10, k10, rfl, _, hk10, hm10⟩ := hr.rd (ivs_len z0)
  have s9 := hb.size
  replace Q_w0 := Q_w0.new hb
  replace Q_x0 := Q_x0.new hb
  replace Q_x1 := Q_x1.new hb
  replace Q_g0 := Q_g0.new hb
  have B9 := B8.trans (hb.mono B8.size)
  have Q_t9 := hr
  clear hr hb
  go_wp2_with fail
  refine (eqIntS_any (zs := z0) (ys := z0) (Lib.hid rfl) (Lib.hid rfl) (by omega) (by omega) (Q_x0.rd'.more (by omega)) (Q_t9.rd'.more (by omega))).mono ?_
  rintro e w10 ⟨he, hb⟩
  rw [show decide (z0 = z0) = true from decide_eq_true rfl] at he
  subst he
  clear Q_t9
  have s10 := hb.size
  replace Q_w0 := Q_w0.new hb
  replace Q_x0 := Q_x0.new hb
  replace Q_x1 := Q_x1.new hb
  replace Q_g0 := Q_g0.new hb
  have B10 := B9.trans (hb.mono B9.size)
  clear hb
  go_wp2_with fail
  refine (toIntSS_any (X := X1) (Lib.hid rfl) (by omega) (Lib.hid (fun x hx => Nat.le_trans (hs1.out x hx) (by omega))) ((R1.below B10).more (by omega))).mono ?_
  rintro e w11 ⟨v, rfl, hr, hb⟩
  obtain ⟨E12, k12, rfl, _, hk12, hm12⟩ := hr.rd (n := X1.length) rfl
  have s11 := hb.size
  replace Q_w0 := Q_w0.new hb
  replace Q_x0 := Q_x0.new hb
  replace Q_x1 := Q_x1.new hb
  replace Q_g0 := Q_g0.new hb
  have B11 := B10.trans (hb.mono B10.size)
  have Q_t11 := hr
  clear hr hb
  go_wp2_with fail
  refine ((eqIntSS_q (X := X1) (Y := X1) (Lib.hid rfl) (Lib.hid rfl) (by omega) (Lib.hid (fun x hx => Nat.le_trans (hs1.out x hx) (by omega))) (Lib.hid (fun x hx => Nat.le_trans (hs1.out x hx) (by omega))) (by omega) (Q_x1.rd'.more (by omega)) (Q_t11.rd'.more (by omega))).mono fun _ _ h => h.tells).mono ?_
  rintro e w12 ⟨he, hb⟩
  rw [show decide (X1 = X1) = true from decide_eq_true rfl] at he
  subst he
  clear Q_t11
  have s12 := hb.size
  replace Q_w0 := Q_w0.new hb
  replace Q_x0 := Q_x0.new hb
  replace Q_x1 := Q_x1.new hb
  replace Q_g0 := Q_g0.new hb
  have B12 := B11.trans (hb.mono B11.size)
  clear hb
  go_wp2_with fail
  refine (markIntS_any (q := 1) (Lib.hid (ivs_len z0)) (by omega) (by omega) (by omega) Q_x0).mono ?_
  rintro e w13 ⟨rfl, hr, ho⟩
  have s13 := ho.size
  replace Q_w0 := Q_w0.out ho (by omega)
  replace Q_x1 := Q_x1.out ho (by omega)
  replace Q_g0 := Q_g0.out ho (by omega)
  have B13 := B12.trans (ho.below (by omega) (by omega))
  replace Q_x0 := hr
  clear hr ho
  go_wp2_with fail
  refine (markIntSS_any (n := X1.length) (q := 1 + (z0.length : Int)) (Lib.hid rfl) (by omega) (Lib.hid (fun x hx => Nat.le_trans (hs1.out x hx) (by omega))) (by omega) (by omega) (by omega) Q_x1).mono ?_
  rintro e w14 ⟨rfl, hr, ho⟩
  have s14 := ho.size
  replace Q_w0 := Q_w0.out ho (by omega)
  replace Q_x0 := Q_x0.out ho (by omega)
  replace Q_g0 := Q_g0.out ho (by omega)
  have B14 := B13.trans (ho.below (by omega) (by omega))
  replace Q_x1 := hr
  clear hr ho
  go_wp2_with fail
  refine (eqIntS_any (zs := r0) (ys := r0) (Lib.hid rfl) (Lib.hid rfl) (by omega) (by omega) (Q_g0.rd'.more (by omega)) (Q_w0.rd'.more (by omega))).mono ?_
  rintro e w15 ⟨he, hb⟩
  rw [show decide (r0 = r0) = true from decide_eq_true rfl] at he
  subst he
  have s15 := hb.size
  replace Q_w0 := Q_w0.new hb
  replace Q_x0 := Q_x0.new hb
  replace Q_x1 := Q_x1.new hb
  replace Q_g0 := Q_g0.new hb
  have B15 := B14.trans (hb.mono B14.size)
  clear hb
  go_wp2_with fail
  refine (markIntS_any (q := 1) (Lib.hid (ivs_len r0)) (by omega) (by omega) (by omega) Q_g0).mono ?_
  rintro e w16 ⟨rfl, hr, ho⟩
  have s16 := ho.size
  replace Q_w0 := Q_w0.out ho (by omega)
  replace Q_x0 := Q_x0.out ho (by omega)
  replace Q_x1 := Q_x1.out ho (by omega)
  have B16 := B15.trans (ho.below (by omega) (by omega))
  replace Q_g0 := hr
  clear hr ho
  go_wp2_with fail
  refine (heldIntS_any (n := r0.length) (q := 1) (by omega) (by omega) (by omega) (Q_g0.rd'.more (by omega))).mono ?_
  rintro e w17 ⟨rfl, rfl⟩
  go_wp2_with fail
  refine (toIntS_any (zs := z0) (Lib.hid rfl) (by omega) ((R0.below B16).more (by omega))).mono ?_
  rintro e w17 ⟨v, rfl, hr, hb⟩
  obtain ⟨E14, k14, rfl, _, hk14, hm14⟩ := hr.rd (ivs_len z0)
  have s17 := hb.size
  replace Q_w0 := Q_w0.new hb
  replace Q_x0 := Q_x0.new hb
  replace Q_x1 := Q_x1.new hb
  replace Q_g0 := Q_g0.new hb
  have B17 := B16.trans (hb.mono B16.size)
  have Q_t13 := hr
  clear hr hb
  go_wp2_with fail
  refine (toIntSS_any (X := X1) (Lib.hid rfl) (by omega) (Lib.hid (fun x hx => Nat.le_trans (hs1.out x hx) (by omega))) ((R1.below B17).more (by omega))).mono ?_
  rintro e w18 ⟨v, rfl, hr, hb⟩
  obtain ⟨E16, k16, rfl, _, hk16, hm16⟩ := hr.rd (n := X1.length) rfl
  have s18 := hb.size
  replace Q_w0 := Q_w0.new hb
  replace Q_x0 := Q_x0.new hb
  replace Q_x1 := Q_x1.new hb
  replace Q_g0 := Q_g0.new hb
  replace Q_t13 := Q_t13.new hb
  have B18 := B17.trans (hb.mono B17.size)
  have Q_t15 := hr
  clear hr hb
  go_wp2_with fail
  refine ((HI.out w18 _ _ _ _ (by omega) (by omega) (by assumption) (Q_t13.rd'.more (by omega)) (by omega) hs1 (by omega) (by omega) (by assumption) (Q_t15.rd'.more (by omega)))).mono ?_
  rintro e w19 ⟨v, rfl, hr, hb⟩
  obtain ⟨E17, k17, rfl, _, hk17, hm17⟩ := hr.rd (ivs_len r0)
  clear Q_t13
  clear Q_t15
  have s19 := hb.size
  replace Q_w0 := Q_w0.new hb
  replace Q_x0 := Q_x0.new hb
  replace Q_x1 := Q_x1.new hb
  replace Q_g0 := Q_g0.new hb
  have B19 := B18.trans (hb.mono B18.size)
  have Q_h0 := hr
  clear hr
  clear hb
  go_wp2_with fail
  refine (eqIntS_any (zs := r0) (ys := r0) (Lib.hid rfl) (Lib.hid rfl) (by omega) (by omega) (Q_h0.rd'.more (by omega)) (Q_w0.rd'.more (by omega))).mono ?_
  rintro e w20 ⟨he, hb⟩
  rw [show decide (r0 = r0) = true from decide_eq_true rfl] at he
  subst he
  have s20 := hb.size
  replace Q_w0 := Q_w0.new hb
  replace Q_x0 := Q_x0.new hb
  replace Q_x1 := Q_x1.new hb
  replace Q_g0 := Q_g0.new hb
  replace Q_h0 := Q_h0.new hb
  have B20 := B19.trans (hb.mono B19.size)
  clear hb
  go_wp2_with fail
  refine (heldIntS_any (n := r0.length) (q := 1) (by omega) (by omega) (by omega) (Q_g0.rd'.more (by omega))).mono ?_
  rintro e w21 ⟨rfl, rfl⟩
  go_wp2_with fail
  go_ret
  exact ⟨rfl, B20⟩
theorem contract (H : Type) (enc : TypeId × Value → H) (W : World) (base : Nat) (args : Array Value) (ds gs : List (DataW H)) (before : List MemPlace)
    (hval : ∀ (j : Nat) t v, Try.f8.params[j]? = some t → args[j]? = some v → Value.okWide Try.prog W .any base t v)
    (hW : DataW.Whole enc Try.prog Try.f8.params.toList Rows.fnExactRateAllSpec.vars false W args.toList ds gs before) (hL : laidMetH Try.prog Rows.fnExactRateAllRow.laid W)
    (hreach : (DataW.weightsEach Try.prog (Try.f8.params.toList ++ (OpenSpec.ofChange Rows.fnExactRateAllSpec).bare.plain.varTypes Try.prog) (ds ++ gs)).all (· ≤ reachBytes) = true) :
    Calls Try.prog 8 args W fun e W' => ∃ v, e = .returned v ∧ Rows.fnExactRateAllSpec.post enc Try.prog Try.f8 false true false false W args v W' := by
  have hW' := hW
  obtain ⟨p, q, hA0, hV, rfl, hfz, hnd⟩ := hW
  have hA : DataW.TrodAll enc Try.prog W 0 (fun _ => true) true Try.f8.params.toList args.toList ds p := hA0
  rw [Try.params8] at hA hval
  obtain ⟨v0, vs0, d0, ds0, p0, q0, hargs, rfl, rfl, h0, r0⟩ := trodAll_cons hA
  obtain ⟨v1, vs1, d1, ds1, p1, q1, rfl, rfl, rfl, h1, r1⟩ := trodAll_cons r0
  obtain ⟨rfl, rfl, rfl⟩ := trodAll_nil r1
  obtain rfl : args = #[v0, v1] := by cases args; simp_all
  obtain ⟨rfl, rfl⟩ := trodVars_none hV
  obtain ⟨A0, c0, z0, rfl, R0, hc0, hm0, hb0⟩ := slice_open Try.underlying29 Try.underlying3 (by kernel_rfl : Try.prog.cellsOf 3 = 1) (hval 0 29 v0 rfl rfl) h0
  obtain ⟨fu1, hf1⟩ := h1
  obtain ⟨A1, c1, X1, rfl, R1, hc1, hm1, hb1⟩ := rows_open Try.underlying30 Try.underlying29 Try.underlying3 (by kernel_rfl : Try.prog.cellsOf 29 = 1) (by kernel_rfl : Try.prog.cellsOf 3 = 1) (show DataW.trod enc Try.prog W 0 (fun _ => true) true fu1 30 [v1] = _ from by obtain ⟨_, _, _, rfl⟩ := okWide_slice Try.underlying30 (hval 1 30 v1 rfl rfl); exact hf1)
  clear hA0 hval
  have walked : Calls Try.prog 8 #[.slice A0 z0.length c0, .slice A1 X1.length c1] W fun e W' => e = .returned (.bool true) ∧ Below W.heap.size W W' := by
    exact core (r0 := if z0.length ≤ 1048576 then ratL z0 X1 else []) R0 hc0 R1 hc1 hm1 (by split; (rw [ratL_len]; omega); simp) (fun w B d B1 d1 hz hd hm hr hz1 hs1 hp1 hd1 hm1 hr1 => by rw [if_pos hz]; exact specRateAll_any (Lib.hid rfl) (by omega) hr (Lib.hid (w64_of hb0)) (Lib.hid rfl) (by omega) (Lib.hid fun x hx => Nat.le_trans (hs1.out x hx) (by omega)) hr1) (fun w B d B1 d1 hz hd hm hr hz1 hs1 hp1 hd1 hm1 hr1 => by rw [if_pos hz]; exact impRateAll_any (Lib.hid rfl) (by omega) hr (Lib.hid (w64_of hb0)) (Lib.hid rfl) (by omega) (Lib.hid fun x hx => Nat.le_trans (hs1.out x hx) (by omega)) hr1)
  refine walked.mono fun e W' ⟨he, hb⟩ => ?_
  exact ⟨_, he, post_true (tb := 4) hW' rfl Try.underlying4 rfl rfl (by kernel_rfl) (by kernel_rfl) hb⟩
noncomputable def laidWorld (os : Os) : World := World.holding Try.prog os ⟨#[], #[], []⟩
theorem laid_met (os : Os) : laidMet Try.prog Rows.fnExactRateAllRow.laid ((laidWorld os).forCall (fun _ _ => 0) ⟨#[], #[Value.slice none 0 0, Value.slice none 0 0], []⟩).memory :=
  laidMet_of_run' 8 (by kernel_rfl) (by kernel_rfl)
theorem reads (os : Os) {H : Type} (enc : TypeId × Value → H) : ∃ places, DataW.whole enc Try.prog ((laidWorld os).forCall (fun _ _ => 0) ⟨#[], #[Value.slice none 0 0, Value.slice none 0 0], []⟩).memory Try.f8.params.toList Rows.fnExactRateAllSpec.vars false (#[Value.slice none 0 0, Value.slice none 0 0]).toList 8 = some ([.nil, .nil], [], places) :=
  ⟨[], by kernel_rfl⟩
set_option maxRecDepth 100000 in
theorem lifted (os : Os) (started : os.Started) (H : Type) (enc : TypeId × Value → H) (F : Stop.Interp) :
    ReturnsInHanded {} Try.checked os 8 .any ((OpenSpec.ofChange Rows.fnExactRateAllSpec).preRow enc Try.prog Try.f8 Rows.fnExactRateAllRow.domain false Rows.fnExactRateAllRow.laid) (((OpenSpec.ofChange Rows.fnExactRateAllSpec).at F).post enc Try.prog Try.f8 false true false false) := by
  obtain ⟨places, hx⟩ := reads os enc
  refine returnsInHanded_of_row (C := Try.checked) (s := (OpenSpec.ofChange Rows.fnExactRateAllSpec)) own started (by kernel_rfl) Try.func8
    (witness_row_at (enc := enc) (C := Try.checked) false (laidWorld os) #[Value.slice none 0 0, Value.slice none 0 0] rfl (by kernel_rfl) (by kernel_rfl) (by kernel_rfl)
      (OpenSpec.preRow_of_cond 8 hx (by kernel_rfl) (fun k hk => by cases hk) (by kernel_rfl) (laid_met os))) ?_
  intro W base args ds gs before hval hW _ hcond hreach hL _ _
  exact contract H enc W base args ds gs before hval hW hL hreach
theorem said : Rows.FnExactRateAllSaid :=
  OpenClaim.holds_of_cond 8 Try.f8 rfl rfl rfl rfl rfl rfl rfl ⟨rfl, rfl, rfl, rfl, rfl⟩ rfl rfl rfl rfl rfl (by kernel_rfl) Try.func8 (by kernel_rfl)
    (of_decide_eq_true (by kernel_rfl)) (by unfold Func.isWrapper; first | (rw [if_pos (by decide +kernel)]; kernel_rfl) | (rw [if_neg (by decide +kernel)]; exact ⟨rfl, rfl⟩))
    (fun os started H enc _ F => by rw [OpenClaim.pre_eq_preRow]; exact lifted os started H enc F)
#print axioms said
end Go.Proofs.Ytdpaoaoipnoiiaa.fnExactRateAll
