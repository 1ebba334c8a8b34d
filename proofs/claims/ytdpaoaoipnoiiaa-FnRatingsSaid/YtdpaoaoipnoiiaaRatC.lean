/- Contracts of chapter 25's numbers, the code's and the models': Expected, Exchange, AfterDebate. No conditions. -/
import Derived.Test.YtdpaoaoipnoiiaaRatMath
import Derived.Test.YtdpaoaoipnoiiaaBits
import Derived.Test.YtdpaoaoipnoiiaaGraph
namespace Go.Proofs.Ytdpaoaoipnoiiaa
open Go.ChangeShapes Go.WideShapes Go.ChangeAt Go.RowKit
set_option maxRecDepth 100000
theorem alloc_r (w : World) (o : Obj) : Below w.heap.size w (w.alloc o) := (Below.refl _ _).alloc (Nat.le_refl _) _
theorem minB_any (a b : Int) (w : World) : Calls Try.prog 74 #[.int .i64 a, .int .i64 b] w fun e w' => e = .returned (.int .i64 (mn a b)) ∧ Below w.heap.size w w' :=
  (min_any a b w).mono fun _ _ h => ⟨h.1, h.2 ▸ alloc_r w _⟩
theorem maxB_any (a b : Int) (w : World) : Calls Try.prog 73 #[.int .i64 a, .int .i64 b] w fun e w' => e = .returned (.int .i64 (mx a b)) ∧ Below w.heap.size w w' :=
  (max_any a b w).mono fun _ _ h => ⟨h.1, h.2 ▸ alloc_r w _⟩
set_option maxHeartbeats 1000000 in
theorem keep_any {w : World} {B : Nat} {x lo hi : Int} (h : Bx w B 3 #[.int .i64 x]) :
    Calls Try.prog 51 #[.pointer (some ⟨B, 0, none⟩), .int .i64 lo, .int .i64 hi] w (fun e w' => e = .returned (.tuple #[]) ∧ Bx w' B 3 #[.int .i64 (clp x lo hi)] ∧ Below B w w') := by
  have c0 := h.at_ (k := 0) rfl
  have H := Lib.hid h
  have hlt := h.lt
  clear h
  go_enter Try.func51, Try.ntmps51
  go_wp2_with fail
  refine (maxB_any _ _ _).mono ?_
  rintro e w1 ⟨rfl, b1⟩
  go_wp2_with fail
  refine (minB_any _ _ _).mono ?_
  rintro e w2 ⟨rfl, b2⟩
  have b := trans_new b1 b2
  have h2 := H.out.new b
  have c2 := h2.at_ (k := 0) rfl
  have f2 := h2.free 0
  have H2 := Lib.hid h2
  have HB := Lib.hid b
  clear b1 b2 b h2 c0
  go_wp2_with fail
  go_end0
  exact ⟨rfl, H2.out.set 0 _, (HB.out.mono (Nat.le_of_lt hlt)).setCell (Nat.le_refl _) _⟩
theorem isRating_any (n : Int) (w : World) : Calls Try.prog 50 #[.int .i64 n] w fun e w' => e = .returned (.bool (inr n 0 3000)) ∧ w = w' := by
  go_enter Try.func50, Try.ntmps50
  go_wp2_with fail
  refine (inRange_any _ _ _ _).mono ?_
  rintro e u ⟨rfl, rfl⟩
  go_wp2_with fail
  go_ret
  exact ⟨rfl, rfl⟩
set_option maxHeartbeats 1000000 in
theorem impExpected_any {a b : Int} {w : World} : Calls Try.prog 18 #[.int .i64 a, .int .i64 b] w fun e w' => e = .returned (.int .i64 (expI a b)) ∧ Below w.heap.size w w' := by
  cases q1 : inr a 0 3000 with
  | false =>
    have HV := Lib.hid (expI_no (a := a) (b := b) (by unfold ratB; rw [q1]; rfl))
    have HQ := Lib.hid q1
    clear q1
    go_enter Try.func18, Try.ntmps18
    go_wp2_with fail
    refine (isRating_any _ _).mono ?_
    rintro e u ⟨rfl, rfl⟩
    rw [HQ.out]
    go_wp2_with fail
    go_ret
    exact ⟨ret_i HV.out.symm, Below.refl _ _⟩
  | true =>
    cases q2 : inr b 0 3000 with
    | false =>
      have HV := Lib.hid (expI_no (a := a) (b := b) (by unfold ratB; rw [q2]; simp))
      have HQ := Lib.hid q1
      have HR := Lib.hid q2
      clear q1 q2
      go_enter Try.func18, Try.ntmps18
      go_wp2_with fail
      refine (isRating_any _ _).mono ?_
      rintro e u ⟨rfl, rfl⟩
      rw [HQ.out]
      go_wp2_with fail
      refine (isRating_any _ _).mono ?_
      rintro e u ⟨rfl, rfl⟩
      rw [HR.out]
      go_wp2_with fail
      go_ret
      exact ⟨ret_i HV.out.symm, Below.refl _ _⟩
    | true =>
      have HV := Lib.hid (expI_ok (a := a) (b := b) (by unfold ratB; rw [q1, q2]; rfl))
      have ha := inr_iff.1 q1
      have hb := inr_iff.1 q2
      have HQ := Lib.hid q1
      have HR := Lib.hid q2
      have w1 := IntWalk.i64_in (a - b) (by omega)
      have ht := tdiv_abs (a - b) (q := 2) (by omega)
      have HE := Lib.hid (show expV a b = clp (500 + (a - b).tdiv 2) 50 950 from rfl)
      obtain ⟨d, hd⟩ : ∃ d, (a - b).tdiv 2 = d := ⟨_, rfl⟩
      rw [hd] at ht HE
      have hdb : -3000 ≤ d ∧ d ≤ 3000 := by omega
      have w2 := IntWalk.i64_in d (by omega)
      have w3 := IntWalk.i64_in (500 + d) (by omega)
      have bx := Bx.made w 3 #[.int .i64 (500 + d)]
      have b1 := alloc_r w (Obj.cells #[.int .i64 (500 + d)] 3)
      obtain ⟨W1, hW⟩ : ∃ W1, w.alloc (Obj.cells #[Value.int .i64 (500 + d)] 3) = W1 := ⟨_, rfl⟩
      rw [hW] at bx b1
      have HW := Lib.hid hW
      have HBX := Lib.hid bx
      have HB1 := Lib.hid b1
      clear q1 q2 ht hW bx b1
      go_enter Try.func18, Try.ntmps18
      go_wp2_with fail
      refine (isRating_any _ _).mono ?_
      rintro e u ⟨rfl, rfl⟩
      rw [HQ.out]
      go_wp2_with fail
      refine (isRating_any _ _).mono ?_
      rintro e u ⟨rfl, rfl⟩
      rw [HR.out]
      go_wp2_with fail
      try rw [HW.out]
      try (go_wp2_with fail)
      refine (keep_any HBX.out).mono ?_
      rintro e w2 ⟨rfl, bx2, b2⟩
      have c2 := bx2.at_ (k := 0) rfl
      have HB2 := Lib.hid b2
      clear bx2 b2
      go_wp2_with fail
      go_ret
      exact ⟨ret_i (by rw [HV.out, HE.out]), HB1.out.trans HB2.out⟩
set_option maxHeartbeats 2000000 in
theorem impExchange_any {a b : Int} {won : Bool} {w : World} : Calls Try.prog 32 #[.int .i64 a, .int .i64 b, .bool won] w fun e w' => e = .returned (.int .i64 (excI a b won)) ∧ Below w.heap.size w w' := by
  cases q : ratB a b with
  | false =>
    have HV := Lib.hid (excI_no (won := won) q)
    have HE := Lib.hid (expI_no q)
    clear q
    go_enter Try.func32, Try.ntmps32
    go_wp2_with fail
    refine impExpected_any.mono ?_
    rintro e w1 ⟨rfl, b1⟩
    rw [HE.out]
    go_wp2_with fail
    go_ret
    exact ⟨ret_i HV.out.symm, b1⟩
  | true =>
    have HV := Lib.hid (excI_ok (won := won) q)
    have HE := Lib.hid (expI_ok q)
    have hq := ratB_iff.1 q
    have hev := expV_in a b
    obtain ⟨v, hv⟩ : ∃ v, expV a b = v := ⟨_, rfl⟩
    rw [hv] at hev HE HV
    have HC := Lib.hid (show chg a b v won = clp ((32 * (scd won - v)).tdiv 1000) (mx (-a) (b - 3000)) (mn (3000 - a) b) from rfl)
    have ht := tdiv_abs (32 * (scd won - v)) (q := 1000) (by omega)
    have hs : 0 ≤ scd won ∧ scd won ≤ 1000 := by unfold scd; split <;> omega
    have HSC := Lib.hid (show scd won = if won then 1000 else 0 from rfl)
    obtain ⟨s, hse⟩ : ∃ s, scd won = s := ⟨_, rfl⟩
    rw [hse] at ht hs HC HSC
    obtain ⟨d, hd⟩ : ∃ d, (32 * (s - v)).tdiv 1000 = d := ⟨_, rfl⟩
    rw [hd] at ht HC
    have hdb : -100000 ≤ d ∧ d ≤ 100000 := by omega
    have k1 := IntWalk.i64_in (s - v) (by omega)
    have k2 := IntWalk.i64_in (32 * (s - v)) (by omega)
    have k3 := IntWalk.i64_in d (by omega)
    have k4 := IntWalk.i64_in (-a) (by omega)
    have k5 := IntWalk.i64_in (b - 3000) (by omega)
    have k6 := IntWalk.i64_in (3000 - a) (by omega)
    clear q hse hv ht
    go_enter Try.func32, Try.ntmps32
    cases won with
    | true =>
      obtain rfl : s = 1000 := HSC.out
      go_wp2_with fail
      refine impExpected_any.mono ?_
      rintro e w1 ⟨rfl, b1⟩
      rw [HE.out]
      have bx := Bx.made w1 3 #[.int .i64 d]
      have b2 := alloc_r w1 (Obj.cells #[.int .i64 d] 3)
      obtain ⟨W1, hW⟩ : ∃ W1, w1.alloc (Obj.cells #[Value.int .i64 d] 3) = W1 := ⟨_, rfl⟩
      rw [hW] at bx b2
      have HW := Lib.hid hW
      have HBX := Lib.hid bx
      have HB2 := Lib.hid (trans_new b1 b2)
      have hz := bx.lt
      have sz1 := b1.size
      clear hW bx b2 b1
      go_wp2_with fail
      rw [HW.out]
      try (go_wp2_with fail)
      refine (maxB_any _ _ _).mono ?_
      rintro e w3 ⟨rfl, b3⟩
      go_wp2_with fail
      refine (minB_any _ _ _).mono ?_
      rintro e w4 ⟨rfl, b4⟩
      have HB4 := Lib.hid (trans_new HB2.out (trans_new b3 b4))
      have HBX4 := Lib.hid (HBX.out.new (trans_new b3 b4))
      clear b3 b4
      go_wp2_with fail
      refine (keep_any HBX4.out).mono ?_
      rintro e w5 ⟨rfl, bx5, b5⟩
      have c5 := bx5.at_ (k := 0) rfl
      have HB5 := Lib.hid (HB4.out.trans (b5.mono sz1))
      clear bx5 b5
      go_wp2_with fail
      go_ret
      exact ⟨ret_i (by rw [HV.out, HC.out]), HB5.out⟩
    | false =>
      obtain rfl : s = 0 := HSC.out
      rw [Int.zero_sub] at hd k1 k2
      go_wp2_with fail
      refine impExpected_any.mono ?_
      rintro e w1 ⟨rfl, b1⟩
      rw [HE.out]
      have bx := Bx.made w1 3 #[.int .i64 d]
      have b2 := alloc_r w1 (Obj.cells #[.int .i64 d] 3)
      obtain ⟨W1, hW⟩ : ∃ W1, w1.alloc (Obj.cells #[Value.int .i64 d] 3) = W1 := ⟨_, rfl⟩
      rw [hW] at bx b2
      have HW := Lib.hid hW
      have HBX := Lib.hid bx
      have HB2 := Lib.hid (trans_new b1 b2)
      have hz := bx.lt
      have sz1 := b1.size
      clear hW bx b2 b1
      go_wp2_with fail
      rw [HW.out]
      try (go_wp2_with fail)
      refine (maxB_any _ _ _).mono ?_
      rintro e w3 ⟨rfl, b3⟩
      go_wp2_with fail
      refine (minB_any _ _ _).mono ?_
      rintro e w4 ⟨rfl, b4⟩
      have HB4 := Lib.hid (trans_new HB2.out (trans_new b3 b4))
      have HBX4 := Lib.hid (HBX.out.new (trans_new b3 b4))
      clear b3 b4
      go_wp2_with fail
      refine (keep_any HBX4.out).mono ?_
      rintro e w5 ⟨rfl, bx5, b5⟩
      have c5 := bx5.at_ (k := 0) rfl
      have HB5 := Lib.hid (HB4.out.trans (b5.mono sz1))
      clear bx5 b5
      go_wp2_with fail
      go_ret
      exact ⟨ret_i (by rw [HV.out, HC.out]), HB5.out⟩
theorem impAfterDebate_any {a b : Int} {won : Bool} (ha : (Lit.int .i64 a).wf = true) (hb : (Lit.int .i64 b).wf = true) {w : World} : Calls Try.prog 17 #[.int .i64 a, .int .i64 b, .bool won] w fun e w' => e = .returned (.tuple #[.int .i64 (a + excI a b won), .int .i64 (b - excI a b won)]) ∧ Below w.heap.size w w' := by
  have a1 := i64_lo ha
  have a2 := i64_hi ha
  have b1 := i64_lo hb
  have b2 := i64_hi hb
  obtain ⟨v, hv⟩ : ∃ v, excI a b won = v := ⟨_, rfl⟩
  have hvb : -9223372036854775808 ≤ a + v ∧ a + v ≤ 9223372036854775807 ∧ -9223372036854775808 ≤ b - v ∧ b - v ≤ 9223372036854775807 := by
    rw [← hv]
    cases q : ratB a b with
    | false => rw [excI_no q]; omega
    | true =>
      rw [excI_ok q]
      have := chg_in (e := expV a b) (won := won) q
      have := ratB_iff.1 q
      omega
  have k1 := IntWalk.i64_in (a + v) (by omega)
  have k2 := IntWalk.i64_in (b - v) (by omega)
  have HV := Lib.hid hv
  rw [hv]
  clear hv ha hb
  go_enter Try.func17, Try.ntmps17
  go_wp2_with fail
  refine impExchange_any.mono ?_
  rintro e w1 ⟨rfl, c1⟩
  rw [HV.out]
  go_wp2_with fail
  go_ret2
  exact ⟨rfl, c1⟩
set_option maxHeartbeats 1000000 in
theorem specExpected_any {a b : Int} {w : World} : Calls Try.prog 30 #[.int .i64 a, .int .i64 b] w fun e w' => e = .returned (.int .i64 (expI a b)) ∧ w = w' := by
  cases q1 : inr a 0 3000 with
  | false =>
    have HV := Lib.hid (expI_no (a := a) (b := b) (by unfold ratB; rw [q1]; rfl))
    have HQ := Lib.hid q1
    clear q1
    go_enter Try.func30, Try.ntmps30
    go_wp2_with fail
    refine (l1In_any _ _ _ _).mono ?_
    rintro e u ⟨rfl, rfl⟩
    rw [HQ.out]
    go_wp2_with fail
    go_ret
    exact ⟨ret_i HV.out.symm, rfl⟩
  | true =>
    cases q2 : inr b 0 3000 with
    | false =>
      have HV := Lib.hid (expI_no (a := a) (b := b) (by unfold ratB; rw [q2]; simp))
      have HQ := Lib.hid q1
      have HR := Lib.hid q2
      clear q1 q2
      go_enter Try.func30, Try.ntmps30
      go_wp2_with fail
      refine (l1In_any _ _ _ _).mono ?_
      rintro e u ⟨rfl, rfl⟩
      rw [HQ.out]
      go_wp2_with fail
      refine (l1In_any _ _ _ _).mono ?_
      rintro e u ⟨rfl, rfl⟩
      rw [HR.out]
      go_wp2_with fail
      go_ret
      exact ⟨ret_i HV.out.symm, rfl⟩
    | true =>
      have HV := Lib.hid (expI_ok (a := a) (b := b) (by unfold ratB; rw [q1, q2]; rfl))
      have ha := inr_iff.1 q1
      have hb := inr_iff.1 q2
      have HQ := Lib.hid q1
      have HR := Lib.hid q2
      have w1 := IntWalk.i64_in (a - b) (by omega)
      have ht := tdiv_abs (a - b) (q := 2) (by omega)
      have HE := Lib.hid (expV_s a b)
      obtain ⟨d, hd⟩ : ∃ d, (a - b).tdiv 2 = d := ⟨_, rfl⟩
      rw [hd] at ht HE
      have hdb : -3000 ≤ d ∧ d ≤ 3000 := by omega
      have w2 := IntWalk.i64_in d (by omega)
      have w3 := IntWalk.i64_in (500 + d) (by omega)
      clear q1 q2 ht
      go_enter Try.func30, Try.ntmps30
      go_wp2_with fail
      refine (l1In_any _ _ _ _).mono ?_
      rintro e u ⟨rfl, rfl⟩
      rw [HQ.out]
      go_wp2_with fail
      refine (l1In_any _ _ _ _).mono ?_
      rintro e u ⟨rfl, rfl⟩
      rw [HR.out]
      go_wp2_with fail
      refine (smin_any _ _ _).mono ?_
      rintro e u ⟨rfl, rfl⟩
      go_wp2_with fail
      refine (smax_any _ _ _).mono ?_
      rintro e u ⟨rfl, rfl⟩
      go_wp2_with fail
      go_ret
      exact ⟨ret_i (by rw [HV.out, HE.out]), rfl⟩
set_option maxHeartbeats 2000000 in
theorem specExchange_any {a b : Int} {won : Bool} {w : World} : Calls Try.prog 31 #[.int .i64 a, .int .i64 b, .bool won] w fun e w' => e = .returned (.int .i64 (excI a b won)) ∧ w = w' := by
  cases q : ratB a b with
  | false =>
    have HV := Lib.hid (excI_no (won := won) q)
    have HE := Lib.hid (expI_no q)
    clear q
    go_enter Try.func31, Try.ntmps31
    go_wp2_with fail
    refine specExpected_any.mono ?_
    rintro e w1 ⟨rfl, rfl⟩
    rw [HE.out]
    go_wp2_with fail
    go_ret
    exact ⟨ret_i HV.out.symm, rfl⟩
  | true =>
    have HV := Lib.hid (excI_ok (won := won) q)
    have HE := Lib.hid (expI_ok q)
    have hq := ratB_iff.1 q
    have hev := expV_in a b
    obtain ⟨v, hv⟩ : ∃ v, expV a b = v := ⟨_, rfl⟩
    rw [hv] at hev HE HV
    have HC := Lib.hid (chg_s (e := v) (won := won) q)
    have ht := tdiv_abs (32 * (scd won - v)) (q := 1000) (by omega)
    have HSC := Lib.hid (show scd won = if won then 1000 else 0 from rfl)
    have hs : 0 ≤ scd won ∧ scd won ≤ 1000 := by unfold scd; split <;> omega
    obtain ⟨s, hse⟩ : ∃ s, scd won = s := ⟨_, rfl⟩
    rw [hse] at ht hs HC HSC
    obtain ⟨d, hd⟩ : ∃ d, (32 * (s - v)).tdiv 1000 = d := ⟨_, rfl⟩
    rw [hd] at ht HC
    have hdb : -100000 ≤ d ∧ d ≤ 100000 := by omega
    have k0 := IntWalk.i64_in (-v) (by omega)
    have k1 := IntWalk.i64_in (s - v) (by omega)
    have k2 := IntWalk.i64_in (32 * (s - v)) (by omega)
    have k3 := IntWalk.i64_in d (by omega)
    have k4 := IntWalk.i64_in (-a) (by omega)
    have k5 := IntWalk.i64_in (b - 3000) (by omega)
    have k6 := IntWalk.i64_in (3000 - a) (by omega)
    clear q hse hv ht
    go_enter Try.func31, Try.ntmps31
    cases won with
    | true =>
      obtain rfl : s = 1000 := HSC.out
      go_wp2_with fail
      refine specExpected_any.mono ?_
      rintro e w1 ⟨rfl, rfl⟩
      rw [HE.out]
      go_wp2_with fail
      refine (smin_any _ _ _).mono ?_
      rintro e u ⟨rfl, rfl⟩
      go_wp2_with fail
      refine (smin_any _ _ _).mono ?_
      rintro e u ⟨rfl, rfl⟩
      go_wp2_with fail
      refine (smax_any _ _ _).mono ?_
      rintro e u ⟨rfl, rfl⟩
      go_wp2_with fail
      refine (smax_any _ _ _).mono ?_
      rintro e u ⟨rfl, rfl⟩
      go_wp2_with fail
      go_ret
      exact ⟨ret_i (by rw [HV.out, HC.out]), rfl⟩
    | false =>
      obtain rfl : s = 0 := HSC.out
      rw [Int.zero_sub] at hd k1 k2
      go_wp2_with fail
      refine specExpected_any.mono ?_
      rintro e w1 ⟨rfl, rfl⟩
      rw [HE.out]
      go_wp2_with fail
      refine (smin_any _ _ _).mono ?_
      rintro e u ⟨rfl, rfl⟩
      go_wp2_with fail
      refine (smin_any _ _ _).mono ?_
      rintro e u ⟨rfl, rfl⟩
      go_wp2_with fail
      refine (smax_any _ _ _).mono ?_
      rintro e u ⟨rfl, rfl⟩
      go_wp2_with fail
      refine (smax_any _ _ _).mono ?_
      rintro e u ⟨rfl, rfl⟩
      go_wp2_with fail
      go_ret
      exact ⟨ret_i (by rw [HV.out, HC.out]), rfl⟩
theorem specAfterDebate_any {a b : Int} {won : Bool} (ha : (Lit.int .i64 a).wf = true) (hb : (Lit.int .i64 b).wf = true) {w : World} : Calls Try.prog 33 #[.int .i64 a, .int .i64 b, .bool won] w fun e w' => e = .returned (.tuple #[.int .i64 (a + excI a b won), .int .i64 (b - excI a b won)]) ∧ Below w.heap.size w w' := by
  have a1 := i64_lo ha
  have a2 := i64_hi ha
  have b1 := i64_lo hb
  have b2 := i64_hi hb
  obtain ⟨v, hv⟩ : ∃ v, excI a b won = v := ⟨_, rfl⟩
  have hvb : -9223372036854775808 ≤ a + v ∧ a + v ≤ 9223372036854775807 ∧ -9223372036854775808 ≤ b - v ∧ b - v ≤ 9223372036854775807 := by
    rw [← hv]
    cases q : ratB a b with
    | false => rw [excI_no q]; omega
    | true =>
      rw [excI_ok q]
      have := chg_in (e := expV a b) (won := won) q
      have := ratB_iff.1 q
      omega
  have k1 := IntWalk.i64_in (a + v) (by omega)
  have k2 := IntWalk.i64_in (b - v) (by omega)
  have HV := Lib.hid hv
  rw [hv]
  clear hv ha hb
  go_enter Try.func33, Try.ntmps33
  go_wp2_with fail
  refine specExchange_any.mono ?_
  rintro e w1 ⟨rfl, rfl⟩
  rw [HV.out]
  go_wp2_with fail
  go_ret2
  exact ⟨rfl, Below.refl _ _⟩
end Go.Proofs.Ytdpaoaoipnoiiaa
