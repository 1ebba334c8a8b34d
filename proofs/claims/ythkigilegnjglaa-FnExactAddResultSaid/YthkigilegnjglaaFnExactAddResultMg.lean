/- Proves the given statement of the law 'FnExactAddResult': at every input that the statement admits, the law returns true and leaves its arguments as they were. Conditions: those of the given row, no other. -/
import Derived.Test.YthkigilegnjglaaRows
import Derived.LaidHandle
import Derived.LaidLaws
import Derived.Stop.Joined
import Derived.Stop.LaidErr
import Derived.ChangeMaps5
import Derived.WalkKit
import Derived.ProofKit
import Derived.OpenShut
import Derived.Deep.DeepHandedRow
import Derived.Lib.LaidTab
import Derived.Deep.RegionHeld3
import Derived.Test.YthkigilegnjglaaMg0
import Derived.Test.YthkigilegnjglaaArX
import Derived.Test.YthkigilegnjglaaTeamC
import Derived.Test.YthkigilegnjglaaTeamO
import Derived.Test.YthkigilegnjglaaOpen
import Derived.Test.YthkigilegnjglaaMg9
namespace Go.Proofs.Ythkigilegnjglaa.fnExactAddResult
open Go.ChangeShapes Go.WideShapes Go.ChangeAt Go.RowKit
set_option linter.unusedVariables false
set_option maxRecDepth 100000
theorem own : ownKnob Try.prog.godebug = none := by kernel_rfl
theorem ucells : Try.prog.cellsOf 5 = 1 := by kernel_rfl
set_option maxHeartbeats 4000000 in
set_option maxRecDepth 100000 in
theorem core {W : World} {A0 : Option Addr} {c0 : Nat} {X0 : List Tm} (R0 : RdT W W.heap.size A0 X0) (hc0 : X0.length ≤ c0) (hm0 : c0 ≤ maxLen) {a1 : Int} {a2 : Int} {a3 : Int} {a4 : Int} {a5 : Int} {r0 : List Tm} (hr0 : r0.length ≤ 14000000) (hrs0 : Hid (∀ x ∈ r0, x.met.length ≤ 1099511627776)) (hrp0 : psum (r0.map Tm.met) r0.length ≤ 140000000) {x1 : Bool}
    (hS : ∀ (w : World) (B0 : Option Addr) (d0 : Nat), X0.length ≤ 1048576 → Hid (∀ x ∈ X0, x.met.length ≤ 1048576) → psum (X0.map Tm.met) X0.length ≤ 1048576 → X0.length ≤ d0 → d0 ≤ maxLen → RdT w w.heap.size B0 X0 → Calls Try.prog 32 #[.slice B0 X0.length d0, .int .i64 a1, .int .i64 a2, .int .i64 a3, .int .i64 a4, .int .i64 a5] w (fun e w' => ∃ v0 : Value, e = .returned (.tuple #[v0, .bool x1]) ∧ OwnT w' w.heap.size w'.heap.size v0 r0 ∧ Below w.heap.size w w'))
    (hI : ∀ (w : World) (B0 : Option Addr) (d0 : Nat), X0.length ≤ 1048576 → Hid (∀ x ∈ X0, x.met.length ≤ 1048576) → psum (X0.map Tm.met) X0.length ≤ 1048576 → X0.length ≤ d0 → d0 ≤ maxLen → RdT w w.heap.size B0 X0 → Calls Try.prog 33 #[.slice B0 X0.length d0, .int .i64 a1, .int .i64 a2, .int .i64 a3, .int .i64 a4, .int .i64 a5] w (fun e w' => ∃ v0 : Value, e = .returned (.tuple #[v0, .bool x1]) ∧ OwnT w' w.heap.size w'.heap.size v0 r0 ∧ Below w.heap.size w w')) :
    Calls Try.prog 8 #[.slice A0 X0.length c0, .int .i64 a1, .int .i64 a2, .int .i64 a3, .int .i64 a4, .int .i64 a5] W (fun e W' => e = .returned (.bool true) ∧ Below W.heap.size W W') := by
  have HS := Lib.hid hS
  have HI := Lib.hid hI
  clear hS hI
  have early : Below W.heap.size W W := (Below.refl _ _)
  clear early
  have B0 : Below W.heap.size W W := Below.refl _ _
  go_enter Try.func8, Try.ntmps8
  go_wp2_with fail
  refine (szTeamS_any (q := 1048576) (X := X0) (Lib.hid rfl) (by unfold maxLen at hm0; omega) (by omega) (by omega) ((R0.below B0).more (by omega))).mono ?_
  rintro e w1 ⟨r_0, rfl, hb, hr⟩
  have s1 := hb.size
  have B1 := B0.trans (hb.mono B0.size)
  clear hb
  rcases hr with rfl | ⟨hr_0, hsz⟩
  · go_wp2_with fail
    go_ret
    exact ⟨rfl, B1⟩
  have hy0 : X0.length ≤ 1048576 := by omega
  have hp0 : psum (X0.map Tm.met) X0.length ≤ 1048576 := by omega
  have hs0 : Hid (∀ x ∈ X0, x.met.length ≤ 1048576) := Lib.hid (fun x hx => by obtain ⟨i, hi, rfl⟩ := List.getElem_of_mem hx; exact Nat.le_trans (Tm_mets_mem hi) hp0)
  have hq_0 : r_0 ≤ 1048576 := by omega
  clear hsz
  go_wp2_with fail
  refine (toTeamS_any (X := X0) (Lib.hid rfl) (by omega) (Lib.hid (fun x hx => Nat.le_trans (hs0.out x hx) (by omega))) ((R0.below B1).more (by omega))).mono ?_
  rintro e w2 ⟨v, rfl, hr, hb⟩
  obtain ⟨E2, k2, rfl, _, hk2, hm2⟩ := hr.rd (n := X0.length) rfl
  have s2 := hb.size
  have B2 := B1.trans (hb.mono B1.size)
  have Q_t1 := hr
  clear hr hb
  go_wp2_with fail
  refine ((HS.out w2 _ _ (by omega) hs0 (by omega) (by omega) (by assumption) (Q_t1.rd'.more (by omega)))).mono ?_
  rintro e w3 ⟨v, rfl, hr, hb⟩
  obtain ⟨E3, k3, rfl, _, hk3, hm3⟩ := hr.rd (n := r0.length) rfl
  clear Q_t1
  have s3 := hb.size
  have B3 := B2.trans (hb.mono B2.size)
  have Q_w0 := hr
  clear hr
  clear hb
  go_wp2_with fail
  refine (toTeamS_any (X := X0) (Lib.hid rfl) (by omega) (Lib.hid (fun x hx => Nat.le_trans (hs0.out x hx) (by omega))) ((R0.below B3).more (by omega))).mono ?_
  rintro e w4 ⟨v, rfl, hr, hb⟩
  obtain ⟨E4, k4, rfl, _, hk4, hm4⟩ := hr.rd (n := X0.length) rfl
  have s4 := hb.size
  replace Q_w0 := Q_w0.new hb
  have B4 := B3.trans (hb.mono B3.size)
  have Q_x0 := hr
  clear hr hb
  go_wp2_with fail
  refine ((HI.out w4 _ _ (by omega) hs0 (by omega) (by omega) (by assumption) (Q_x0.rd'.more (by omega)))).mono ?_
  rintro e w5 ⟨v, rfl, hr, hb⟩
  obtain ⟨E5, k5, rfl, _, hk5, hm5⟩ := hr.rd (n := r0.length) rfl
  have s5 := hb.size
  replace Q_w0 := Q_w0.new hb
  replace Q_x0 := Q_x0.new hb
  have B5 := B4.trans (hb.mono B4.size)
  have Q_g0 := hr
  clear hr
  clear hb
  go_wp2_with fail
  refine (eqTeamS_same (X := r0) (Lib.hid rfl) (by omega) hrs0 (Q_g0.rd'.more (by omega)) (Q_w0.rd'.more (by omega))).mono ?_
  rintro e w6 ⟨he, hb⟩
  subst he
  have s6 := hb.size
  replace Q_w0 := Q_w0.new hb
  replace Q_x0 := Q_x0.new hb
  replace Q_g0 := Q_g0.new hb
  have B6 := B5.trans (hb.mono B5.size)
  clear hb
  go_wp2_with fail
  refine (toTeamS_any (X := X0) (Lib.hid rfl) (by omega) (Lib.hid (fun x hx => Nat.le_trans (hs0.out x hx) (by omega))) ((R0.below B6).more (by omega))).mono ?_
  rintro e w7 ⟨v, rfl, hr, hb⟩
  obtain ⟨E7, k7, rfl, _, hk7, hm7⟩ := hr.rd (n := X0.length) rfl
  have s7 := hb.size
  replace Q_w0 := Q_w0.new hb
  replace Q_x0 := Q_x0.new hb
  replace Q_g0 := Q_g0.new hb
  have B7 := B6.trans (hb.mono B6.size)
  have Q_t6 := hr
  clear hr hb
  go_wp2_with fail
  refine (eqTeamS_same (X := X0) (Lib.hid rfl) (by omega) (Lib.hid (fun x hx => Nat.le_trans (hs0.out x hx) (by omega))) (Q_x0.rd'.more (by omega)) (Q_t6.rd'.more (by omega))).mono ?_
  rintro e w8 ⟨he, hb⟩
  subst he
  clear Q_t6
  have s8 := hb.size
  replace Q_w0 := Q_w0.new hb
  replace Q_x0 := Q_x0.new hb
  replace Q_g0 := Q_g0.new hb
  have B8 := B7.trans (hb.mono B7.size)
  clear hb
  go_wp2_with fail
  refine (markTeamS_any (n := X0.length) (q := 1) (Lib.hid rfl) (by omega) (by omega) (by omega) (by omega) (by omega) Q_x0).mono ?_
  rintro e w9 ⟨rfl, hr, ho⟩
  have s9 := ho.size
  replace Q_w0 := Q_w0.out ho (by omega)
  replace Q_g0 := Q_g0.out ho (by omega)
  have B9 := B8.trans (ho.below (by omega) (by omega))
  replace Q_x0 := hr
  clear hr ho
  obtain ⟨q8, hq8⟩ : ∃ q : Int, mkbT (1) X0 X0.length = q := ⟨_, rfl⟩
  have hqb8 : 0 ≤ q8 ∧ q8 ≤ (1) + 5 * (X0.length : Int) + (psum (X0.map Tm.met) X0.length : Nat) := by rw [← hq8]; unfold mkbT; omega
  rw [hq8]
  have HQ8 := Lib.hid hq8
  clear hq8
  go_wp2_with fail
  refine (eqTeamS_same (X := r0) (Lib.hid rfl) (by omega) hrs0 (Q_g0.rd'.more (by omega)) (Q_w0.rd'.more (by omega))).mono ?_
  rintro e w10 ⟨he, hb⟩
  subst he
  have s10 := hb.size
  replace Q_w0 := Q_w0.new hb
  replace Q_x0 := Q_x0.new hb
  replace Q_g0 := Q_g0.new hb
  have B10 := B9.trans (hb.mono B9.size)
  clear hb
  go_wp2_with fail
  refine (markTeamS_any (n := r0.length) (q := 1) (Lib.hid rfl) (by omega) (by omega) (by omega) (by omega) (by omega) Q_g0).mono ?_
  rintro e w11 ⟨rfl, hr, ho⟩
  have s11 := ho.size
  replace Q_w0 := Q_w0.out ho (by omega)
  replace Q_x0 := Q_x0.out ho (by omega)
  have B11 := B10.trans (ho.below (by omega) (by omega))
  replace Q_g0 := hr
  clear hr ho
  obtain ⟨q9, hq9⟩ : ∃ q : Int, mkbT (1) r0 r0.length = q := ⟨_, rfl⟩
  have hqb9 : 0 ≤ q9 ∧ q9 ≤ (1) + 5 * (r0.length : Int) + (psum (r0.map Tm.met) r0.length : Nat) := by rw [← hq9]; unfold mkbT; omega
  rw [hq9]
  have HQ9 := Lib.hid hq9
  clear hq9
  go_wp2_with fail
  refine (heldTeamS_any (n := r0.length) (q := 1) (Lib.hid rfl) (by omega) (by omega) (by omega) (by omega) (Q_g0.rd'.more (by omega))).mono ?_
  rintro e w12 ⟨rfl, rfl⟩
  rw [HQ9.out]
  go_wp2_with fail
  refine (toTeamS_any (X := X0) (Lib.hid rfl) (by omega) (Lib.hid (fun x hx => Nat.le_trans (hs0.out x hx) (by omega))) ((R0.below B11).more (by omega))).mono ?_
  rintro e w12 ⟨v, rfl, hr, hb⟩
  obtain ⟨E11, k11, rfl, _, hk11, hm11⟩ := hr.rd (n := X0.length) rfl
  have s12 := hb.size
  replace Q_w0 := Q_w0.new hb
  replace Q_x0 := Q_x0.new hb
  replace Q_g0 := Q_g0.new hb
  have B12 := B11.trans (hb.mono B11.size)
  have Q_t10 := hr
  clear hr hb
  go_wp2_with fail
  refine ((HI.out w12 _ _ (by omega) hs0 (by omega) (by omega) (by assumption) (Q_t10.rd'.more (by omega)))).mono ?_
  rintro e w13 ⟨v, rfl, hr, hb⟩
  obtain ⟨E12, k12, rfl, _, hk12, hm12⟩ := hr.rd (n := r0.length) rfl
  clear Q_t10
  have s13 := hb.size
  replace Q_w0 := Q_w0.new hb
  replace Q_x0 := Q_x0.new hb
  replace Q_g0 := Q_g0.new hb
  have B13 := B12.trans (hb.mono B12.size)
  have Q_h0 := hr
  clear hr
  clear hb
  go_wp2_with fail
  refine (eqTeamS_same (X := r0) (Lib.hid rfl) (by omega) hrs0 (Q_h0.rd'.more (by omega)) (Q_w0.rd'.more (by omega))).mono ?_
  rintro e w14 ⟨he, hb⟩
  subst he
  have s14 := hb.size
  replace Q_w0 := Q_w0.new hb
  replace Q_x0 := Q_x0.new hb
  replace Q_g0 := Q_g0.new hb
  replace Q_h0 := Q_h0.new hb
  have B14 := B13.trans (hb.mono B13.size)
  clear hb
  go_wp2_with fail
  refine (heldTeamS_any (n := r0.length) (q := 1) (Lib.hid rfl) (by omega) (by omega) (by omega) (by omega) (Q_g0.rd'.more (by omega))).mono ?_
  rintro e w15 ⟨rfl, rfl⟩
  rw [HQ9.out]
  go_wp2_with fail
  go_ret
  exact ⟨rfl, B14⟩
theorem contract (H : Type) (enc : TypeId × Value → H) (W : World) (base : Nat) (args : Array Value) (ds gs : List (DataW H)) (before : List MemPlace)
    (hval : ∀ (j : Nat) t v, Try.f8.params[j]? = some t → args[j]? = some v → Value.okWide Try.prog W .any base t v)
    (hW : DataW.Whole enc Try.prog Try.f8.params.toList Rows.fnExactAddResultSpec.vars false W args.toList ds gs before) (hL : laidMetH Try.prog Rows.fnExactAddResultRow.laid W)
    (hreach : (DataW.weightsEach Try.prog (Try.f8.params.toList ++ (OpenSpec.ofChange Rows.fnExactAddResultSpec).bare.plain.varTypes Try.prog) (ds ++ gs)).all (· ≤ reachBytes) = true) :
    Calls Try.prog 8 args W fun e W' => ∃ v, e = .returned v ∧ Rows.fnExactAddResultSpec.post enc Try.prog Try.f8 false true false false W args v W' := by
  have hW' := hW
  obtain ⟨p, q, hA0, hV, rfl, hfz, hnd⟩ := hW
  have hA : DataW.TrodAll enc Try.prog W 0 (fun _ => true) true Try.f8.params.toList args.toList ds p := hA0
  rw [Try.params8] at hA hval
  obtain ⟨v0, vs0, d0, ds0, p0, q0, hargs, rfl, rfl, h0, r0⟩ := trodAll_cons hA
  obtain ⟨v1, vs1, d1, ds1, p1, q1, rfl, rfl, rfl, h1, r1⟩ := trodAll_cons r0
  obtain ⟨v2, vs2, d2, ds2, p2, q2, rfl, rfl, rfl, h2, r2⟩ := trodAll_cons r1
  obtain ⟨v3, vs3, d3, ds3, p3, q3, rfl, rfl, rfl, h3, r3⟩ := trodAll_cons r2
  obtain ⟨v4, vs4, d4, ds4, p4, q4, rfl, rfl, rfl, h4, r4⟩ := trodAll_cons r3
  obtain ⟨v5, vs5, d5, ds5, p5, q5, rfl, rfl, rfl, h5, r5⟩ := trodAll_cons r4
  obtain ⟨rfl, rfl, rfl⟩ := trodAll_nil r5
  obtain rfl : args = #[v0, v1, v2, v3, v4, v5] := by cases args; simp_all
  obtain ⟨rfl, rfl⟩ := trodVars_none hV
  obtain ⟨A0, c0, X0, rfl, R0, hc0, hm0, hb0⟩ := slice_openT Try.underlying27 Try.underlying81 (by kernel_rfl : Try.prog.cellsOf 81 = 6) rfl rfl rfl rfl rfl rfl Try.underlying3 Try.underlying3 Try.underlying3 Try.underlying3 Try.underlying3 Try.underlying45 Try.underlying3 (by kernel_rfl : Try.prog.cellsOf 3 = 1) (by kernel_rfl) (by kernel_rfl) (by kernel_rfl) (by kernel_rfl) (by kernel_rfl) (by kernel_rfl) (hval 0 27 v0 rfl rfl) h0
  obtain ⟨a1, rfl, rfl, rfl, w1⟩ := open_int Try.underlying3 (hval 1 3 v1 rfl rfl) h1
  obtain ⟨a2, rfl, rfl, rfl, w2⟩ := open_int Try.underlying3 (hval 2 3 v2 rfl rfl) h2
  obtain ⟨a3, rfl, rfl, rfl, w3⟩ := open_int Try.underlying3 (hval 3 3 v3 rfl rfl) h3
  obtain ⟨a4, rfl, rfl, rfl, w4⟩ := open_int Try.underlying3 (hval 4 3 v4 rfl rfl) h4
  obtain ⟨a5, rfl, rfl, rfl, w5⟩ := open_int Try.underlying3 (hval 5 3 v5 rfl rfl) h5
  clear hA0 hval
  have walked : Calls Try.prog 8 #[.slice A0 X0.length c0, .int .i64 a1, .int .i64 a2, .int .i64 a3, .int .i64 a4, .int .i64 a5] W fun e W' => e = .returned (.bool true) ∧ Below W.heap.size W W' := by
    exact core (r0 := cutT X0 (arsR X0 a1 a2 a3 a4 a5)) (x1 := arsB X0 a1 a2 a3 a4 a5) R0 hc0 hm0 (cutT_meas ars_or).1 (Lib.hid (cutT_meas ars_or).2.1) (cutT_meas ars_or).2.2 (fun w B d hz hs hp hd hm hr => by rw [cutT_eq hz hp]; exact specAddResult_any (Lib.hid rfl) (by omega) hs hr) (fun w B d hz hs hp hd hm hr => by rw [cutT_eq hz hp]; exact impAddResult_any (Lib.hid rfl) (by omega) hs hr (Lib.hid hb0) (Lib.hid (i6_of w1)) (Lib.hid (i6_of w2)))
  refine walked.mono fun e W' ⟨he, hb⟩ => ?_
  exact ⟨_, he, post_true (tb := 4) hW' rfl Try.underlying4 rfl rfl (by kernel_rfl) (by kernel_rfl) hb⟩
noncomputable def laidWorld (os : Os) : World := World.holding Try.prog os ⟨#[], #[], []⟩
theorem laid_met (os : Os) : laidMet Try.prog Rows.fnExactAddResultRow.laid ((laidWorld os).forCall (fun _ _ => 0) ⟨#[], #[Value.slice none 0 0, Value.int .i64 0, Value.int .i64 0, Value.int .i64 0, Value.int .i64 0, Value.int .i64 0], []⟩).memory :=
  laidMet_of_run' 8 (by kernel_rfl) (by kernel_rfl)
theorem reads (os : Os) {H : Type} (enc : TypeId × Value → H) : ∃ places, DataW.whole enc Try.prog ((laidWorld os).forCall (fun _ _ => 0) ⟨#[], #[Value.slice none 0 0, Value.int .i64 0, Value.int .i64 0, Value.int .i64 0, Value.int .i64 0, Value.int .i64 0], []⟩).memory Try.f8.params.toList Rows.fnExactAddResultSpec.vars false (#[Value.slice none 0 0, Value.int .i64 0, Value.int .i64 0, Value.int .i64 0, Value.int .i64 0, Value.int .i64 0]).toList 8 = some ([.nil, .lit (.int .i64 0), .lit (.int .i64 0), .lit (.int .i64 0), .lit (.int .i64 0), .lit (.int .i64 0)], [], places) :=
  ⟨[], by kernel_rfl⟩
set_option maxRecDepth 100000 in
theorem lifted (os : Os) (started : os.Started) (H : Type) (enc : TypeId × Value → H) (F : Stop.Interp) :
    ReturnsInHanded {} Try.checked os 8 .any ((OpenSpec.ofChange Rows.fnExactAddResultSpec).preRow enc Try.prog Try.f8 Rows.fnExactAddResultRow.domain false Rows.fnExactAddResultRow.laid) (((OpenSpec.ofChange Rows.fnExactAddResultSpec).at F).post enc Try.prog Try.f8 false true false false) := by
  obtain ⟨places, hx⟩ := reads os enc
  refine returnsInHanded_of_row (C := Try.checked) (s := (OpenSpec.ofChange Rows.fnExactAddResultSpec)) own started (by kernel_rfl) Try.func8
    (witness_row_at (enc := enc) (C := Try.checked) false (laidWorld os) #[Value.slice none 0 0, Value.int .i64 0, Value.int .i64 0, Value.int .i64 0, Value.int .i64 0, Value.int .i64 0] rfl (by kernel_rfl) (by kernel_rfl) (by kernel_rfl)
      (OpenSpec.preRow_of_cond 8 hx (by kernel_rfl) (fun k hk => by cases hk) (by kernel_rfl) (laid_met os))) ?_
  intro W base args ds gs before hval hW _ hcond hreach hL _ _
  exact contract H enc W base args ds gs before hval hW hL hreach
theorem said : Rows.FnExactAddResultSaid :=
  OpenClaim.holds_of_cond 8 Try.f8 rfl rfl rfl rfl rfl rfl rfl ⟨rfl, rfl, rfl, rfl, rfl⟩ rfl rfl rfl rfl rfl (by kernel_rfl) Try.func8 (by kernel_rfl)
    (of_decide_eq_true (by kernel_rfl)) (by unfold Func.isWrapper; first | (rw [if_pos (by decide +kernel)]; kernel_rfl) | (rw [if_neg (by decide +kernel)]; exact ⟨rfl, rfl⟩))
    (fun os started H enc _ F => by rw [OpenClaim.pre_eq_preRow]; exact lifted os started H enc F)
#print axioms said
end Go.Proofs.Ythkigilegnjglaa.fnExactAddResult
