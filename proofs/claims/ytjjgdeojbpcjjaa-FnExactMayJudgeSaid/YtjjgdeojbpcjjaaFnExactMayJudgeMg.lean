/- Proves the given statement of the law 'FnExactMayJudge': at every input that the statement admits, the law returns true and leaves its arguments as they were. Conditions: those of the given row, no other. -/
import Derived.Test.YtjjgdeojbpcjjaaRows
import Derived.LaidHandle
import Derived.LaidLaws
import Derived.Stop.Joined
import Derived.Stop.LaidErr
import Derived.ChangeMaps5
import Derived.WalkKit
import Derived.ProofKit
import Derived.OpenShut
import Derived.Deep.DeepHandedRow
import Derived.Lib.LaidTab
import Derived.Deep.RegionHeld3
import Derived.Test.YtjjgdeojbpcjjaaMg0
import Derived.Test.YtjjgdeojbpcjjaaMjM
import Derived.Test.YtjjgdeojbpcjjaaMjC
import Derived.Test.YtjjgdeojbpcjjaaTeamC
import Derived.Test.YtjjgdeojbpcjjaaJudgeC
import Derived.Test.YtjjgdeojbpcjjaaTeamO
import Derived.Test.YtjjgdeojbpcjjaaJudgeO
import Derived.Test.YtjjgdeojbpcjjaaPairA
import Derived.Test.YtjjgdeojbpcjjaaOpen2
import Derived.Test.YtjjgdeojbpcjjaaOpen
import Derived.Test.YtjjgdeojbpcjjaaGraph
namespace Go.Proofs.Ytjjgdeojbpcjjaa.fnExactMayJudge
open Go.ChangeShapes Go.WideShapes Go.ChangeAt Go.RowKit
set_option linter.unusedVariables false
set_option maxRecDepth 100000
theorem own : ownKnob Try.prog.godebug = none := by kernel_rfl
theorem ucells : Try.prog.cellsOf 5 = 1 := by kernel_rfl
theorem rdJ5 {W W2 u : World} {A : Option Addr} {l : List Value} (R : Rd W W.heap.size A l) (B : Below W.heap.size W W2) (k : Below W2.heap.size W2 u) : Rd u u.heap.size A l := (R.below (B.trans (k.mono B.size))).more (B.trans (k.mono B.size)).size
theorem rdT5 {W W2 u : World} {A : Option Addr} {X : List Tm} (R : RdT W W.heap.size A X) (B : Below W.heap.size W W2) (k : Below W2.heap.size W2 u) : RdT u u.heap.size A X := (R.below (B.trans (k.mono B.size))).more (B.trans (k.mono B.size)).size
set_option maxHeartbeats 8000000 in
set_option maxRecDepth 100000 in
theorem core {W : World} {A0 : Option Addr} {c0 : Nat} {X0 : List Tm} (R0 : RdT W W.heap.size A0 X0) (hc0 : X0.length ≤ c0) (hm0 : c0 ≤ maxLen) {A1 : Option Addr} {c1 : Nat} {x1 : Jd} (R1 : Rd W W.heap.size A1 (ivs x1.seen)) (hl1 : x1.seen.length ≤ c1) (hm1 : c1 ≤ maxLen) {p2 : T2} {y0 : Bool}
    (hS : ∀ (w : World) (B0 : Option Addr) (d0 : Nat) (B1 : Option Addr) (d1 : Nat), X0.length ≤ 1048576 → Hid (∀ x ∈ X0, x.met.length ≤ 1048576) → RdT w w.heap.size B0 X0 → x1.seen.length ≤ 1048576 → Rd w w.heap.size B1 (ivs x1.seen) → Calls Try.prog 51 #[.slice B0 X0.length d0, .agg #[.int .i64 x1.id, .int .i64 x1.club, .slice B1 x1.seen.length d1], .agg #[.int .i64 p2.1, .int .i64 p2.2]] w (fun e w' => e = .returned (.bool y0) ∧ Below w.heap.size w w'))
    (hI : ∀ (w : World) (B0 : Option Addr) (d0 : Nat) (B1 : Option Addr) (d1 : Nat), X0.length ≤ 1048576 → Hid (∀ x ∈ X0, x.met.length ≤ 1048576) → RdT w w.heap.size B0 X0 → x1.seen.length ≤ 1048576 → Rd w w.heap.size B1 (ivs x1.seen) → Calls Try.prog 54 #[.slice B0 X0.length d0, .agg #[.int .i64 x1.id, .int .i64 x1.club, .slice B1 x1.seen.length d1], .agg #[.int .i64 p2.1, .int .i64 p2.2]] w (fun e w' => e = .returned (.bool y0) ∧ Below w.heap.size w w')) :
    Calls Try.prog 12 #[.slice A0 X0.length c0, .agg #[.int .i64 x1.id, .int .i64 x1.club, .slice A1 x1.seen.length c1], .agg #[.int .i64 p2.1, .int .i64 p2.2]] W (fun e W' => e = .returned (.bool true) ∧ Below W.heap.size W W') := by
  have HS := Lib.hid hS
  have HI := Lib.hid hI
  clear hS hI
  have B2 : Below W.heap.size W ((W.alloc (Obj.cells #[Value.int .i64 x1.id, .int .i64 x1.club, .slice A1 x1.seen.length c1] 60)).alloc (Obj.cells #[Value.int .i64 p2.1, .int .i64 p2.2] 61)) := ((Below.refl _ _).alloc (Nat.le_refl _) _).alloc (by rw [World.size_alloc]; omega) _
  have bj := (Bx.made W 60 #[Value.int .i64 x1.id, .int .i64 x1.club, .slice A1 x1.seen.length c1]).new (alloc_m (W.alloc (Obj.cells #[Value.int .i64 x1.id, .int .i64 x1.club, .slice A1 x1.seen.length c1] 60)) (Obj.cells #[Value.int .i64 p2.1, .int .i64 p2.2] 61))
  have bp : Bx ((W.alloc (Obj.cells #[Value.int .i64 x1.id, .int .i64 x1.club, .slice A1 x1.seen.length c1] 60)).alloc (Obj.cells #[Value.int .i64 p2.1, .int .i64 p2.2] 61)) (W.heap.size + 1) 61 #[Value.int .i64 p2.1, .int .i64 p2.2] := by
    have h := Bx.made (W.alloc (Obj.cells #[Value.int .i64 x1.id, .int .i64 x1.club, .slice A1 x1.seen.length c1] 60)) 61 #[Value.int .i64 p2.1, .int .i64 p2.2]
    simp only [World.size_alloc] at h
    exact h
  obtain ⟨W2, hW⟩ : ∃ W2, (W.alloc (Obj.cells #[Value.int .i64 x1.id, .int .i64 x1.club, .slice A1 x1.seen.length c1] 60)).alloc (Obj.cells #[Value.int .i64 p2.1, .int .i64 p2.2] 61) = W2 := ⟨_, rfl⟩
  rw [hW] at B2 bj bp
  have j0 := bj.at_ (k := 0) (v := .int .i64 x1.id) rfl
  have j1 := bj.at_ (k := 1) (v := .int .i64 x1.club) rfl
  have j2 := bj.at_ (k := 2) (v := .slice A1 x1.seen.length c1) rfl
  have p0 := bp.at_ (k := 0) (v := .int .i64 p2.1) rfl
  have p1 := bp.at_ (k := 1) (v := .int .i64 p2.2) rfl
  have HW := Lib.hid hW
  have KE := fun (u : World) (q : Below W2.heap.size W2 u) => show Below W2.heap.size W2 u ∧ u.cell? ⟨W.heap.size, 0, none⟩ = some (.int .i64 x1.id) ∧ u.cell? ⟨W.heap.size, 1, none⟩ = some (.int .i64 x1.club) ∧ u.cell? ⟨W.heap.size, 2, none⟩ = some (.slice A1 x1.seen.length c1) ∧ u.cell? ⟨W.heap.size + 1, 0, none⟩ = some (.int .i64 p2.1) ∧ u.cell? ⟨W.heap.size + 1, 1, none⟩ = some (.int .i64 p2.2) from ⟨q, nwc5 q j0, nwc5 q j1, nwc5 q j2, nwc5 q p0, nwc5 q p1⟩
  clear bj bp hW
  go_enter Try.func12, Try.ntmps12
  go_wp2_with fail
  rw [HW.out]
  try (go_wp2_with fail)
  refine (szTeamS_any (q := 1048576) (X := X0) (Lib.hid rfl) (by unfold maxLen at hm0; omega) (by omega) (by omega) (rdT5 R0 B2 (Below.refl _ _))).mono ?_
  rintro e w1 ⟨r_0, rfl, k9, hr⟩
  rcases hr with rfl | ⟨hr_0, hsz⟩
  · go_wp2_with fail
    go_ret
    exact ⟨rfl, B2.trans (k9.mono B2.size)⟩
  have hy0 : X0.length ≤ 1048576 := by omega
  have hp0 : psum (X0.map Tm.met) X0.length ≤ 1048576 := by omega
  have hs0 : Hid (∀ x ∈ X0, x.met.length ≤ 1048576) := Lib.hid (fun x hx => by obtain ⟨i, hi, rfl⟩ := List.getElem_of_mem hx; exact Nat.le_trans (Tm_mets_mem hi) hp0)
  have hs9 : Hid (∀ x ∈ X0, x.met.length ≤ 1099511627776) := Lib.hid (fun x hx => Nat.le_trans (hs0.out x hx) (by omega))
  have hq_0 : r_0 ≤ 1048576 := by omega
  clear hsz
  obtain ⟨g0, g1, g2, g3, g4, g5⟩ := KE _ k9
  go_wp2_with fail
  refine (szJudge_any (q := r_0) (by unfold maxLen at hm1; omega) (by omega) (by omega)).mono ?_
  rintro e w3 ⟨rfl, hb⟩
  replace k9 := trans_new k9 hb
  clear hb g0 g1 g2 g3 g4 g5
  by_cases hz1 : r_0 < (x1.seen.length : Int)
  · rw [show szd r_0 x1.seen.length = -1 by unfold szd; rw [if_pos (by omega)]]
    go_wp2_with fail
    go_ret
    exact ⟨rfl, B2.trans (k9.mono B2.size)⟩
  have hy1 : x1.seen.length ≤ 1048576 := by omega
  rw [show szd r_0 x1.seen.length = r_0 - (x1.seen.length : Int) by unfold szd; rw [if_neg (by omega)]]
  obtain ⟨r_1, hrr⟩ : ∃ r : Int, r = r_0 - (x1.seen.length : Int) := ⟨_, rfl⟩
  rw [← hrr]
  have hq_1 : 0 ≤ r_1 := by omega
  clear hrr hz1
  go_wp2_with fail
  go_region_held3 (fun u => Below W2.heap.size W2 u ∧ u.cell? ⟨W.heap.size, 0, none⟩ = some (.int .i64 x1.id) ∧ u.cell? ⟨W.heap.size, 1, none⟩ = some (.int .i64 x1.club) ∧ u.cell? ⟨W.heap.size, 2, none⟩ = some (.slice A1 x1.seen.length c1) ∧ u.cell? ⟨W.heap.size + 1, 0, none⟩ = some (.int .i64 p2.1) ∧ u.cell? ⟨W.heap.size + 1, 1, none⟩ = some (.int .i64 p2.2)) (first | assumption | with_reducible exact KE _ k9 | with_reducible exact KE _ (Below.drew k9))
    (first
    | (go_at_call 35; (with_reducible refine (toTeamS_any (X := X0) (Lib.hid rfl) (by omega) hs9 (rdT5 R0 B2 (‹Below W2.heap.size W2 _ ∧ _›).1)).mono ?_); rintro e w5 ⟨v5, rfl, hr5, hb5⟩; obtain ⟨E2, k2, rfl, _, hk2, hm2⟩ := hr5.rd (n := X0.length) rfl; have k9 := trans_new (‹Below W2.heap.size W2 _ ∧ _›).1 hb5; have s5 := hb5.size)
    | (go_at_call 52; (with_reducible refine (toJudge_any (x := x1) (by omega) (rdJ5 R1 B2 (‹Below W2.heap.size W2 _ ∧ _›).1)).mono ?_); rintro e w6 ⟨E4, k4, rfl, hr6, hb6⟩; replace hr5 := hr5.new hb6; have k9 := trans_new (‹Below W2.heap.size W2 _ ∧ _›).1 hb6; have s6 : w5.heap.size ≤ w6.heap.size := hb6.size)
    | (go_at_call 53; (with_reducible refine (toPair_any).mono ?_); rintro e w7 ⟨rfl, hb7⟩; replace hr5 := hr5.new hb7; replace hr6 := hr6.new hb7; have k9 := trans_new (‹Below W2.heap.size W2 _ ∧ _›).1 hb7; have s7 : w6.heap.size ≤ w7.heap.size := hb7.size)
    | (go_at_call 51; (with_reducible refine (HS.out _ _ _ _ _ (by omega) hs0 (hr5.rd'.more (by omega)) (by omega) (hr6.rd'.more (by omega))).mono ?_); rintro e w8 ⟨rfl, hb8⟩; have k9 := trans_new (‹Below W2.heap.size W2 _ ∧ _›).1 hb8))
  clear hr5 hr6
  have k10 := k9
  clear k9
  go_wp2_with fail
  refine (toTeamS_any (X := X0) (Lib.hid rfl) (by omega) hs9 (rdT5 R0 B2 k10)).mono ?_
  rintro e w9 ⟨v, rfl, Q0, hb⟩
  obtain ⟨E5, k5, rfl, _, hk5, hm5⟩ := Q0.rd (n := X0.length) rfl
  have k11 := trans_new k10 hb
  have s9 := hb.size
  clear hb
  obtain ⟨g0, g1, g2, g3, g4, g5⟩ := KE _ k11
  go_wp2_with fail
  refine (toJudge_any (x := x1) (by omega) (rdJ5 R1 B2 k11)).mono ?_
  rintro e w10 ⟨E6, k6, rfl, Q1, hb⟩
  have k12 := trans_new k11 hb
  replace Q0 := Q0.new hb
  have s10 := hb.size
  clear hb g0 g1 g2 g3 g4 g5
  have ba := alloc_m w10 (Obj.cells #[Value.int .i64 x1.id, .int .i64 x1.club, .slice E6 x1.seen.length k6] 64)
  have bx := Bx.made w10 64 #[Value.int .i64 x1.id, .int .i64 x1.club, .slice E6 x1.seen.length k6]
  obtain ⟨W11, hW11⟩ : ∃ u, w10.alloc (Obj.cells #[Value.int .i64 x1.id, .int .i64 x1.club, .slice E6 x1.seen.length k6] 64) = u := ⟨_, rfl⟩
  rw [hW11] at ba bx
  have HW11 := Lib.hid hW11
  clear hW11
  replace Q0 := Q0.new ba
  replace Q1 := Q1.new ba
  have QA := Q1
  have k13 := trans_new k12 ba
  have s11 := ba.size
  have e0 := bx.at_ (k := 0) (v := .int .i64 x1.id) rfl
  have e1 := bx.at_ (k := 1) (v := .int .i64 x1.club) rfl
  have e2 := bx.at_ (k := 2) (v := .slice E6 x1.seen.length k6) rfl
  clear ba bx
  obtain ⟨g0, g1, g2, g3, g4, g5⟩ := KE _ k13
  have KF := fun (u : World) (q : Below W11.heap.size W11 u) => show Below W11.heap.size W11 u ∧ u.cell? ⟨w10.heap.size, 0, none⟩ = some (.int .i64 x1.id) ∧ u.cell? ⟨w10.heap.size, 1, none⟩ = some (.int .i64 x1.club) ∧ u.cell? ⟨w10.heap.size, 2, none⟩ = some (.slice E6 x1.seen.length k6) ∧ u.cell? ⟨W.heap.size + 1, 0, none⟩ = some (.int .i64 p2.1) ∧ u.cell? ⟨W.heap.size + 1, 1, none⟩ = some (.int .i64 p2.2) ∧ u.cell? ⟨W.heap.size, 0, none⟩ = some (.int .i64 x1.id) ∧ u.cell? ⟨W.heap.size, 1, none⟩ = some (.int .i64 x1.club) ∧ u.cell? ⟨W.heap.size, 2, none⟩ = some (.slice A1 x1.seen.length c1) from ⟨q, nwc5 q e0, nwc5 q e1, nwc5 q e2, nwc5 q g4, nwc5 q g5, nwc5 q g1, nwc5 q g2, nwc5 q g3⟩
  have kZ := Below.refl W11.heap.size W11
  clear e0 e1 e2 g0 g1 g2 g3 g4 g5 KE
  go_wp2_with fail
  rw [HW11.out]
  try (go_wp2_with fail)
  go_region_held3 (fun u => Below W11.heap.size W11 u ∧ u.cell? ⟨w10.heap.size, 0, none⟩ = some (.int .i64 x1.id) ∧ u.cell? ⟨w10.heap.size, 1, none⟩ = some (.int .i64 x1.club) ∧ u.cell? ⟨w10.heap.size, 2, none⟩ = some (.slice E6 x1.seen.length k6) ∧ u.cell? ⟨W.heap.size + 1, 0, none⟩ = some (.int .i64 p2.1) ∧ u.cell? ⟨W.heap.size + 1, 1, none⟩ = some (.int .i64 p2.2) ∧ u.cell? ⟨W.heap.size, 0, none⟩ = some (.int .i64 x1.id) ∧ u.cell? ⟨W.heap.size, 1, none⟩ = some (.int .i64 x1.club) ∧ u.cell? ⟨W.heap.size, 2, none⟩ = some (.slice A1 x1.seen.length c1)) (first | assumption | with_reducible exact KF _ kZ | with_reducible exact KF _ (Below.drew kZ) | with_reducible exact KF _ k9 | with_reducible exact KF _ (Below.drew k9))
    (first
    | (go_at_call 53; (with_reducible refine (toPair_any).mono ?_); rintro e w12 ⟨rfl, hb7⟩; replace Q0 := Q0.new (trans_new (‹Below W11.heap.size W11 _ ∧ _›).1 hb7); replace Q1 := Q1.new (trans_new (‹Below W11.heap.size W11 _ ∧ _›).1 hb7); have k9 := trans_new (‹Below W11.heap.size W11 _ ∧ _›).1 hb7; have s12 := k9.size)
    | (go_at_call 54; (with_reducible refine (HI.out _ _ _ _ _ (by omega) hs0 (Q0.rd'.more (by omega)) (by omega) (Q1.rd'.more (by omega))).mono ?_); rintro e w13 ⟨rfl, hb8⟩; replace Q0 := Q0.new hb8; replace Q1 := Q1.new hb8; have s13 := hb8.size; have k9 := trans_new (‹Below W11.heap.size W11 _ ∧ _›).1 hb8))
  have k14 := k9
  have k15 := trans_new k13 k14
  clear k9 kZ
  go_wp2_with fail
  refine (toTeamS_any (X := X0) (Lib.hid rfl) (by omega) hs9 (rdT5 R0 B2 k15)).mono ?_
  rintro e w14 ⟨v, rfl, Q4, hb⟩
  obtain ⟨E7, k7, rfl, _, hk7, hm7⟩ := Q4.rd (n := X0.length) rfl
  replace Q0 := Q0.new hb
  replace Q1 := Q1.new hb
  have k16 := trans_new k14 hb
  have s14 := hb.size
  clear hb
  go_wp2_with fail
  refine (eqTeamS_same (X := X0) (Lib.hid rfl) (by omega) hs9 (Q0.rd'.more (by omega)) (Q4.rd'.more (by omega))).mono ?_
  rintro e w15 ⟨he, hb⟩
  subst he
  clear Q4 Q0
  replace Q1 := Q1.new hb
  have s15 := hb.size
  have kZ := trans_new k16 hb
  clear hb
  go_wp2_with fail
  go_region_held3 (fun u => Below W11.heap.size W11 u ∧ u.cell? ⟨w10.heap.size, 0, none⟩ = some (.int .i64 x1.id) ∧ u.cell? ⟨w10.heap.size, 1, none⟩ = some (.int .i64 x1.club) ∧ u.cell? ⟨w10.heap.size, 2, none⟩ = some (.slice E6 x1.seen.length k6) ∧ u.cell? ⟨W.heap.size + 1, 0, none⟩ = some (.int .i64 p2.1) ∧ u.cell? ⟨W.heap.size + 1, 1, none⟩ = some (.int .i64 p2.2) ∧ u.cell? ⟨W.heap.size, 0, none⟩ = some (.int .i64 x1.id) ∧ u.cell? ⟨W.heap.size, 1, none⟩ = some (.int .i64 x1.club) ∧ u.cell? ⟨W.heap.size, 2, none⟩ = some (.slice A1 x1.seen.length c1)) (first | assumption | with_reducible exact KF _ kZ | with_reducible exact KF _ (Below.drew kZ) | with_reducible exact KF _ k9 | with_reducible exact KF _ (Below.drew k9))
    (first
    | (go_at_call 52; (with_reducible refine (toJudge_any (x := x1) (by omega) (rdJ5 R1 B2 (trans_new k13 (‹Below W11.heap.size W11 _ ∧ _›).1))).mono ?_); rintro e w16 ⟨E8, k8, rfl, Q6, hb6⟩; have Q7 := QA.new (trans_new (‹Below W11.heap.size W11 _ ∧ _›).1 hb6); have k9 := trans_new (‹Below W11.heap.size W11 _ ∧ _›).1 hb6; have s16 := k9.size)
    | (go_at_call 55; (with_reducible refine (eqJudge_same (x := x1) (by omega) (Q7.rd'.more (by omega)) (Q6.rd'.more (by omega))).mono ?_); rintro e w17 ⟨he, hb8⟩; subst he; have k9 := trans_new (‹Below W11.heap.size W11 _ ∧ _›).1 hb8))
  have k17 := trans_new k13 k9
  clear k9 kZ
  go_wp2_with fail
  go_ret
  exact ⟨rfl, B2.trans (k17.mono B2.size)⟩
theorem contract (H : Type) (enc : TypeId × Value → H) (W : World) (base : Nat) (args : Array Value) (ds gs : List (DataW H)) (before : List MemPlace)
    (hval : ∀ (j : Nat) t v, Try.f12.params[j]? = some t → args[j]? = some v → Value.okWide Try.prog W .any base t v)
    (hW : DataW.Whole enc Try.prog Try.f12.params.toList Rows.fnExactMayJudgeSpec.vars false W args.toList ds gs before) (hL : laidMetH Try.prog Rows.fnExactMayJudgeRow.laid W)
    (hreach : (DataW.weightsEach Try.prog (Try.f12.params.toList ++ (OpenSpec.ofChange Rows.fnExactMayJudgeSpec).bare.plain.varTypes Try.prog) (ds ++ gs)).all (· ≤ reachBytes) = true) :
    Calls Try.prog 12 args W fun e W' => ∃ v, e = .returned v ∧ Rows.fnExactMayJudgeSpec.post enc Try.prog Try.f12 false true false false W args v W' := by
  have hW' := hW
  obtain ⟨p, q, hA0, hV, rfl, hfz, hnd⟩ := hW
  have hA : DataW.TrodAll enc Try.prog W 0 (fun _ => true) true Try.f12.params.toList args.toList ds p := hA0
  rw [Try.params12] at hA hval
  obtain ⟨v0, vs0, d0, ds0, p0, q0, hargs, rfl, rfl, h0, r0⟩ := trodAll_cons hA
  obtain ⟨v1, vs1, d1, ds1, p1, q1, rfl, rfl, rfl, h1, r1⟩ := trodAll_cons r0
  obtain ⟨v2, vs2, d2, ds2, p2, q2, rfl, rfl, rfl, h2, r2⟩ := trodAll_cons r1
  obtain ⟨rfl, rfl, rfl⟩ := trodAll_nil r2
  obtain rfl : args = #[v0, v1, v2] := by cases args; simp_all
  obtain ⟨rfl, rfl⟩ := trodVars_none hV
  obtain ⟨A0, c0, X0, rfl, R0, hc0, hm0, hb0⟩ := slice_openT Try.underlying38 Try.underlying108 (by kernel_rfl : Try.prog.cellsOf 108 = 6) rfl rfl rfl rfl rfl rfl Try.underlying3 Try.underlying3 Try.underlying3 Try.underlying3 Try.underlying3 Try.underlying27 Try.underlying3 (by kernel_rfl : Try.prog.cellsOf 3 = 1) (by kernel_rfl) (by kernel_rfl) (by kernel_rfl) (by kernel_rfl) (by kernel_rfl) (by kernel_rfl) (hval 0 38 v0 rfl rfl) h0
  obtain ⟨x1, A1, c1, rfl, hc1, hm1, R1, hb1⟩ := struct_openJ Try.underlying60 (by kernel_rfl) (by kernel_rfl : Try.prog.cellsOf 60 = 3) Try.underlying3 Try.underlying3 Try.underlying27 Try.underlying3 (by kernel_rfl : Try.prog.cellsOf 3 = 1) (hval 1 60 v1 rfl rfl) h1
  obtain ⟨p2, rfl, hp2⟩ := struct_open2 Try.underlying61 (by kernel_rfl) (by kernel_rfl : Try.prog.cellsOf 61 = 2) Try.underlying3 Try.underlying3 (hval 2 61 v2 rfl rfl) h2
  clear hA0 hval
  have walked : Calls Try.prog 12 #[.slice A0 X0.length c0, .agg #[.int .i64 x1.id, .int .i64 x1.club, .slice A1 x1.seen.length c1], .agg #[.int .i64 p2.1, .int .i64 p2.2]] W fun e W' => e = .returned (.bool true) ∧ Below W.heap.size W W' := by
    exact core (y0 := mjB X0 x1 p2.1 p2.2) R0 hc0 hm0 R1 hc1 hm1 (fun w B d B1 d1 hz hs hr hz1 hr1 => specMayJudge_any (Lib.hid rfl) (by omega) hz1 hr hr1) (fun w B d B1 d1 hz hs hr hz1 hr1 => impMayJudge_any (Lib.hid rfl) (by omega) hz1 (Lib.hid fun x hx => (hb0 x hx).1) hp2.1 hp2.2 hr hr1)
  refine walked.mono fun e W' ⟨he, hb⟩ => ?_
  exact ⟨_, he, post_true (tb := 4) hW' rfl Try.underlying4 rfl rfl (by kernel_rfl) (by kernel_rfl) hb⟩
noncomputable def laidWorld (os : Os) : World := World.holding Try.prog os ⟨#[], #[], []⟩
theorem laid_met (os : Os) : laidMet Try.prog Rows.fnExactMayJudgeRow.laid ((laidWorld os).forCall (fun _ _ => 0) ⟨#[], #[Value.slice none 0 0, Value.agg #[.int .i64 0, .int .i64 0, .slice none 0 0], Value.agg #[.int .i64 0, .int .i64 0]], []⟩).memory :=
  laidMet_of_run' 8 (by kernel_rfl) (by kernel_rfl)
theorem reads (os : Os) {H : Type} (enc : TypeId × Value → H) : ∃ places, DataW.whole enc Try.prog ((laidWorld os).forCall (fun _ _ => 0) ⟨#[], #[Value.slice none 0 0, Value.agg #[.int .i64 0, .int .i64 0, .slice none 0 0], Value.agg #[.int .i64 0, .int .i64 0]], []⟩).memory Try.f12.params.toList Rows.fnExactMayJudgeSpec.vars false (#[Value.slice none 0 0, Value.agg #[.int .i64 0, .int .i64 0, .slice none 0 0], Value.agg #[.int .i64 0, .int .i64 0]]).toList 8 = some ([.nil, .agg [.lit (.int .i64 0), .lit (.int .i64 0), .nil], .agg [.lit (.int .i64 0), .lit (.int .i64 0)]], [], places) :=
  ⟨[], by kernel_rfl⟩
set_option maxRecDepth 100000 in
theorem lifted (os : Os) (started : os.Started) (H : Type) (enc : TypeId × Value → H) (F : Stop.Interp) :
    ReturnsInHanded {} Try.checked os 12 .any ((OpenSpec.ofChange Rows.fnExactMayJudgeSpec).preRow enc Try.prog Try.f12 Rows.fnExactMayJudgeRow.domain false Rows.fnExactMayJudgeRow.laid) (((OpenSpec.ofChange Rows.fnExactMayJudgeSpec).at F).post enc Try.prog Try.f12 false true false false) := by
  obtain ⟨places, hx⟩ := reads os enc
  refine returnsInHanded_of_row (C := Try.checked) (s := (OpenSpec.ofChange Rows.fnExactMayJudgeSpec)) own started (by kernel_rfl) Try.func12
    (witness_row_at (enc := enc) (C := Try.checked) false (laidWorld os) #[Value.slice none 0 0, Value.agg #[.int .i64 0, .int .i64 0, .slice none 0 0], Value.agg #[.int .i64 0, .int .i64 0]] rfl (by kernel_rfl) (by kernel_rfl) (by kernel_rfl)
      (OpenSpec.preRow_of_cond 8 hx (by kernel_rfl) (fun k hk => by cases hk) (by kernel_rfl) (laid_met os))) ?_
  intro W base args ds gs before hval hW _ hcond hreach hL _ _
  exact contract H enc W base args ds gs before hval hW hL hreach
theorem said : Rows.FnExactMayJudgeSaid :=
  OpenClaim.holds_of_cond 12 Try.f12 rfl rfl rfl rfl rfl rfl rfl ⟨rfl, rfl, rfl, rfl, rfl⟩ rfl rfl rfl rfl rfl (by kernel_rfl) Try.func12 (by kernel_rfl)
    (of_decide_eq_true (by kernel_rfl)) (by unfold Func.isWrapper; first | (rw [if_pos (by decide +kernel)]; kernel_rfl) | (rw [if_neg (by decide +kernel)]; exact ⟨rfl, rfl⟩))
    (fun os started H enc _ F => by rw [OpenClaim.pre_eq_preRow]; exact lifted os started H enc F)
#print axioms said
end Go.Proofs.Ytjjgdeojbpcjjaa.fnExactMayJudge
