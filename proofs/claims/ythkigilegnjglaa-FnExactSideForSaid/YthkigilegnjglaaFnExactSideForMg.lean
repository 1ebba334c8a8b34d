/- Proves the given statement of the law 'FnExactSideFor': at every input that the statement admits, the law returns true and leaves its arguments as they were. Conditions: those of the given row, no other. -/
import Derived.Test.YthkigilegnjglaaRows
import Derived.LaidHandle
import Derived.LaidLaws
import Derived.Stop.Joined
import Derived.Stop.LaidErr
import Derived.ChangeMaps5
import Derived.WalkKit
import Derived.ProofKit
import Derived.OpenShut
import Derived.Deep.DeepHandedRow
import Derived.Lib.LaidTab
import Derived.Deep.RegionHeld3
import Derived.Test.YthkigilegnjglaaMg0
import Derived.Test.YthkigilegnjglaaSfM
import Derived.Test.YthkigilegnjglaaPairA
import Derived.Test.YthkigilegnjglaaTeamC
import Derived.Test.YthkigilegnjglaaTeamO
import Derived.Test.YthkigilegnjglaaOpen
import Derived.Test.YthkigilegnjglaaMg5
namespace Go.Proofs.Ythkigilegnjglaa.fnExactSideFor
open Go.ChangeShapes Go.WideShapes Go.ChangeAt Go.RowKit
set_option linter.unusedVariables false
set_option maxRecDepth 100000
theorem own : ownKnob Try.prog.godebug = none := by kernel_rfl
theorem ucells : Try.prog.cellsOf 5 = 1 := by kernel_rfl
set_option maxHeartbeats 4000000 in
set_option maxRecDepth 100000 in
theorem core {W : World} {A0 : Option Addr} {c0 : Nat} {X0 : List Tm} (R0 : RdT W W.heap.size A0 X0) (hc0 : X0.length ≤ c0) (hm0 : c0 ≤ maxLen) {a1 : Int} {a2 : Int} {P Q : Int}
    (hS : ∀ (w : World) (B0 : Option Addr) (d0 : Nat), X0.length ≤ 1048576 → Hid (∀ x ∈ X0, x.met.length ≤ 1048576) → psum (X0.map Tm.met) X0.length ≤ 1048576 → X0.length ≤ d0 → d0 ≤ maxLen → RdT w w.heap.size B0 X0 → Calls Try.prog 29 #[.slice B0 X0.length d0, .int .i64 a1, .int .i64 a2] w (fun e w' => e = .returned (.agg #[.int .i64 P, .int .i64 Q]) ∧ Below w.heap.size w w'))
    (hI : ∀ (w : World) (B0 : Option Addr) (d0 : Nat), X0.length ≤ 1048576 → Hid (∀ x ∈ X0, x.met.length ≤ 1048576) → psum (X0.map Tm.met) X0.length ≤ 1048576 → X0.length ≤ d0 → d0 ≤ maxLen → RdT w w.heap.size B0 X0 → Calls Try.prog 30 #[.slice B0 X0.length d0, .int .i64 a1, .int .i64 a2] w (fun e w' => e = .returned (.agg #[.int .i64 P, .int .i64 Q]) ∧ Below w.heap.size w w')) :
    Calls Try.prog 7 #[.slice A0 X0.length c0, .int .i64 a1, .int .i64 a2] W (fun e W' => e = .returned (.bool true) ∧ Below W.heap.size W W') := by
  have HS := Lib.hid hS
  have HI := Lib.hid hI
  clear hS hI
  have early : Below W.heap.size W W := (Below.refl _ _)
  clear early
  have B0 : Below W.heap.size W W := Below.refl _ _
  go_enter Try.func7, Try.ntmps7
  go_wp2_with fail
  refine (szTeamS_any (q := 1048576) (X := X0) (Lib.hid rfl) (by unfold maxLen at hm0; omega) (by omega) (by omega) ((R0.below B0).more (by omega))).mono ?_
  rintro e w1 ⟨r_0, rfl, hb, hr⟩
  have s1 := hb.size
  have B1 := B0.trans (hb.mono B0.size)
  clear hb
  rcases hr with rfl | ⟨hr_0, hsz⟩
  · go_wp2_with fail
    go_ret
    exact ⟨rfl, B1⟩
  have hy0 : X0.length ≤ 1048576 := by omega
  have hp0 : psum (X0.map Tm.met) X0.length ≤ 1048576 := by omega
  have hs0 : Hid (∀ x ∈ X0, x.met.length ≤ 1048576) := Lib.hid (fun x hx => by obtain ⟨i, hi, rfl⟩ := List.getElem_of_mem hx; exact Nat.le_trans (Tm_mets_mem hi) hp0)
  have hq_0 : r_0 ≤ 1048576 := by omega
  clear hsz
  go_wp2_with fail
  refine (toTeamS_any (X := X0) (Lib.hid rfl) (by omega) (Lib.hid (fun x hx => Nat.le_trans (hs0.out x hx) (by omega))) ((R0.below B1).more (by omega))).mono ?_
  rintro e w2 ⟨v, rfl, hr, hb⟩
  obtain ⟨E2, k2, rfl, _, hk2, hm2⟩ := hr.rd (n := X0.length) rfl
  have s2 := hb.size
  have B2 := B1.trans (hb.mono B1.size)
  have Q_t1 := hr
  clear hr hb
  go_wp2_with fail
  refine ((HS.out w2 _ _ (by omega) hs0 (by omega) (by omega) (by assumption) (Q_t1.rd'.more (by omega)))).mono ?_
  rintro e w3 ⟨rfl, hb⟩
  clear Q_t1
  have s3 := hb.size
  obtain ⟨U3, hU3, y3, b3, z3⟩ := box2T w3 38 (.int .i64 P) (.int .i64 Q)
  have HU3 := Lib.hid hU3
  have B3 := B2.trans ((hb.trans (b3.mono hb.size)).mono B2.size)
  clear hb hU3 b3
  go_wp2_with fail
  rw [HU3.out]
  try (go_wp2_with fail)
  refine (toTeamS_any (X := X0) (Lib.hid rfl) (by omega) (Lib.hid (fun x hx => Nat.le_trans (hs0.out x hx) (by omega))) ((R0.below B3).more (by omega))).mono ?_
  rintro e w4 ⟨v, rfl, hr, hb⟩
  obtain ⟨E3, k3, rfl, _, hk3, hm3⟩ := hr.rd (n := X0.length) rfl
  have s4 := hb.size
  have B4 := B3.trans (hb.mono B3.size)
  replace y3 := y3.new hb
  have Q_x0 := hr
  clear hr hb
  go_wp2_with fail
  refine ((HI.out w4 _ _ (by omega) hs0 (by omega) (by omega) (by assumption) (Q_x0.rd'.more (by omega)))).mono ?_
  rintro e w5 ⟨rfl, hb⟩
  have s5 := hb.size
  obtain ⟨U5, hU5, y5, b5, z5⟩ := box2T w5 38 (.int .i64 P) (.int .i64 Q)
  subst hU5
  replace Q_x0 := (Q_x0.new hb).new b5
  replace y3 := (y3.new hb).new b5
  have B5 := B4.trans ((hb.trans (b5.mono hb.size)).mono B4.size)
  obtain ⟨m0, m1⟩ := y3.c2 (Below.refl _ _)
  obtain ⟨n0, n1⟩ := y5.c2 (Below.refl _ _)
  have s5 := hb.size
  have s5a := b5.size
  clear hb b5 y3 y5
  go_wp2_with fail
  refine (eqPair_any).mono ?_
  rintro e w5b ⟨he, hb⟩
  rw [decide_eq_true rfl] at he
  subst he
  replace Q_x0 := Q_x0.new hb
  have B5b := B5.trans (hb.mono B5.size)
  have s5b := hb.size
  clear hb m0 m1 n0 n1 z3
  go_wp2_with fail
  refine (toTeamS_any (X := X0) (Lib.hid rfl) (by omega) (Lib.hid (fun x hx => Nat.le_trans (hs0.out x hx) (by omega))) ((R0.below B5b).more B5b.size)).mono ?_
  rintro e w6 ⟨v, rfl, hr, hb⟩
  obtain ⟨E5, k5, rfl, _, hk5, hm5⟩ := hr.rd (n := X0.length) rfl
  have s6 := hb.size
  replace Q_x0 := Q_x0.new hb
  have B6 := B5b.trans (hb.mono B5b.size)
  have Q_t4 := hr
  clear hr hb
  go_wp2_with fail
  refine (eqTeamS_same (X := X0) (Lib.hid rfl) (by omega) (Lib.hid (fun x hx => Nat.le_trans (hs0.out x hx) (by omega))) (Q_x0.rd'.more (by omega)) (Q_t4.rd'.more (by omega))).mono ?_
  rintro e w7 ⟨he, hb⟩
  subst he
  clear Q_t4
  have s7 := hb.size
  replace Q_x0 := Q_x0.new hb
  have B7 := B6.trans (hb.mono B6.size)
  clear hb
  go_wp2_with fail
  go_ret
  exact ⟨rfl, B7⟩
theorem contract (H : Type) (enc : TypeId × Value → H) (W : World) (base : Nat) (args : Array Value) (ds gs : List (DataW H)) (before : List MemPlace)
    (hval : ∀ (j : Nat) t v, Try.f7.params[j]? = some t → args[j]? = some v → Value.okWide Try.prog W .any base t v)
    (hW : DataW.Whole enc Try.prog Try.f7.params.toList Rows.fnExactSideForSpec.vars false W args.toList ds gs before) (hL : laidMetH Try.prog Rows.fnExactSideForRow.laid W)
    (hreach : (DataW.weightsEach Try.prog (Try.f7.params.toList ++ (OpenSpec.ofChange Rows.fnExactSideForSpec).bare.plain.varTypes Try.prog) (ds ++ gs)).all (· ≤ reachBytes) = true) :
    Calls Try.prog 7 args W fun e W' => ∃ v, e = .returned v ∧ Rows.fnExactSideForSpec.post enc Try.prog Try.f7 false true false false W args v W' := by
  have hW' := hW
  obtain ⟨p, q, hA0, hV, rfl, hfz, hnd⟩ := hW
  have hA : DataW.TrodAll enc Try.prog W 0 (fun _ => true) true Try.f7.params.toList args.toList ds p := hA0
  rw [Try.params7] at hA hval
  obtain ⟨v0, vs0, d0, ds0, p0, q0, hargs, rfl, rfl, h0, r0⟩ := trodAll_cons hA
  obtain ⟨v1, vs1, d1, ds1, p1, q1, rfl, rfl, rfl, h1, r1⟩ := trodAll_cons r0
  obtain ⟨v2, vs2, d2, ds2, p2, q2, rfl, rfl, rfl, h2, r2⟩ := trodAll_cons r1
  obtain ⟨rfl, rfl, rfl⟩ := trodAll_nil r2
  obtain rfl : args = #[v0, v1, v2] := by cases args; simp_all
  obtain ⟨rfl, rfl⟩ := trodVars_none hV
  obtain ⟨A0, c0, X0, rfl, R0, hc0, hm0, hb0⟩ := slice_openT Try.underlying27 Try.underlying81 (by kernel_rfl : Try.prog.cellsOf 81 = 6) rfl rfl rfl rfl rfl rfl Try.underlying3 Try.underlying3 Try.underlying3 Try.underlying3 Try.underlying3 Try.underlying45 Try.underlying3 (by kernel_rfl : Try.prog.cellsOf 3 = 1) (by kernel_rfl) (by kernel_rfl) (by kernel_rfl) (by kernel_rfl) (by kernel_rfl) (by kernel_rfl) (hval 0 27 v0 rfl rfl) h0
  obtain ⟨a1, rfl, rfl, rfl, w1⟩ := open_int Try.underlying3 (hval 1 3 v1 rfl rfl) h1
  obtain ⟨a2, rfl, rfl, rfl, w2⟩ := open_int Try.underlying3 (hval 2 3 v2 rfl rfl) h2
  clear hA0 hval
  have walked : Calls Try.prog 7 #[.slice A0 X0.length c0, .int .i64 a1, .int .i64 a2] W fun e W' => e = .returned (.bool true) ∧ Below W.heap.size W W' := by
    exact core (P := (sfP X0 a1 a2).1) (Q := (sfP X0 a1 a2).2) R0 hc0 hm0 (fun w B d hz hs hp hd hm hr => specSideFor_any (Lib.hid rfl) (by omega) hs hr) (fun w B d hz hs hp hd hm hr => impSideFor_any (Lib.hid rfl) (by omega) hs (Lib.hid hb0) (Lib.hid (i6_of w1)) (Lib.hid (i6_of w2)) hr)
  refine walked.mono fun e W' ⟨he, hb⟩ => ?_
  exact ⟨_, he, post_true (tb := 4) hW' rfl Try.underlying4 rfl rfl (by kernel_rfl) (by kernel_rfl) hb⟩
noncomputable def laidWorld (os : Os) : World := World.holding Try.prog os ⟨#[], #[], []⟩
theorem laid_met (os : Os) : laidMet Try.prog Rows.fnExactSideForRow.laid ((laidWorld os).forCall (fun _ _ => 0) ⟨#[], #[Value.slice none 0 0, Value.int .i64 0, Value.int .i64 0], []⟩).memory :=
  laidMet_of_run' 8 (by kernel_rfl) (by kernel_rfl)
theorem reads (os : Os) {H : Type} (enc : TypeId × Value → H) : ∃ places, DataW.whole enc Try.prog ((laidWorld os).forCall (fun _ _ => 0) ⟨#[], #[Value.slice none 0 0, Value.int .i64 0, Value.int .i64 0], []⟩).memory Try.f7.params.toList Rows.fnExactSideForSpec.vars false (#[Value.slice none 0 0, Value.int .i64 0, Value.int .i64 0]).toList 8 = some ([.nil, .lit (.int .i64 0), .lit (.int .i64 0)], [], places) :=
  ⟨[], by kernel_rfl⟩
set_option maxRecDepth 100000 in
theorem lifted (os : Os) (started : os.Started) (H : Type) (enc : TypeId × Value → H) (F : Stop.Interp) :
    ReturnsInHanded {} Try.checked os 7 .any ((OpenSpec.ofChange Rows.fnExactSideForSpec).preRow enc Try.prog Try.f7 Rows.fnExactSideForRow.domain false Rows.fnExactSideForRow.laid) (((OpenSpec.ofChange Rows.fnExactSideForSpec).at F).post enc Try.prog Try.f7 false true false false) := by
  obtain ⟨places, hx⟩ := reads os enc
  refine returnsInHanded_of_row (C := Try.checked) (s := (OpenSpec.ofChange Rows.fnExactSideForSpec)) own started (by kernel_rfl) Try.func7
    (witness_row_at (enc := enc) (C := Try.checked) false (laidWorld os) #[Value.slice none 0 0, Value.int .i64 0, Value.int .i64 0] rfl (by kernel_rfl) (by kernel_rfl) (by kernel_rfl)
      (OpenSpec.preRow_of_cond 8 hx (by kernel_rfl) (fun k hk => by cases hk) (by kernel_rfl) (laid_met os))) ?_
  intro W base args ds gs before hval hW _ hcond hreach hL _ _
  exact contract H enc W base args ds gs before hval hW hL hreach
theorem said : Rows.FnExactSideForSaid :=
  OpenClaim.holds_of_cond 7 Try.f7 rfl rfl rfl rfl rfl rfl rfl ⟨rfl, rfl, rfl, rfl, rfl⟩ rfl rfl rfl rfl rfl (by kernel_rfl) Try.func7 (by kernel_rfl)
    (of_decide_eq_true (by kernel_rfl)) (by unfold Func.isWrapper; first | (rw [if_pos (by decide +kernel)]; kernel_rfl) | (rw [if_neg (by decide +kernel)]; exact ⟨rfl, rfl⟩))
    (fun os started H enc _ F => by rw [OpenClaim.pre_eq_preRow]; exact lifted os started H enc F)
#print axioms said
end Go.Proofs.Ythkigilegnjglaa.fnExactSideFor
