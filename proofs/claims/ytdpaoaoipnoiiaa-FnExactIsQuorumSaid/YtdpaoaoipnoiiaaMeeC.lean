/- Contracts of chapter 29's small functions, the code's and the models': IsQuorum, Passes, CastingVote, LeastYes. No conditions. -/
import Derived.Test.YtdpaoaoipnoiiaaMeeMath
namespace Go.Proofs.Ytdpaoaoipnoiiaa
open Go.ChangeShapes Go.WideShapes Go.ChangeAt Go.RowKit
set_option maxRecDepth 100000
theorem canP_any {m p : Int} {w : World} : Calls Try.prog 60 #[.int .i64 m, .int .i64 p] w fun e w' => e = .returned (.bool (canP m p)) ∧ w = w' := by
  cases q : inr m 1 1000 with
  | false =>
    have HV := Lib.hid (show canP m p = false by unfold canP; rw [q]; rfl)
    have HQ := Lib.hid q
    clear q
    go_enter Try.func60, Try.ntmps60
    go_wp2_with fail
    refine (inRange_any _ _ _ _).mono ?_
    rintro e u ⟨rfl, rfl⟩
    rw [HQ.out]
    go_wp2_with fail
    go_ret
    exact ⟨ret_b HV.out.symm, rfl⟩
  | true =>
    have HV := Lib.hid (show canP m p = inr p 0 m by unfold canP; rw [q]; rfl)
    have HQ := Lib.hid q
    clear q
    go_enter Try.func60, Try.ntmps60
    go_wp2_with fail
    refine (inRange_any _ _ _ _).mono ?_
    rintro e u ⟨rfl, rfl⟩
    rw [HQ.out]
    go_wp2_with fail
    refine (inRange_any _ _ _ _).mono ?_
    rintro e u ⟨rfl, rfl⟩
    go_wp2_with fail
    go_ret
    exact ⟨ret_b HV.out.symm, rfl⟩
theorem canV_any {p y n : Int} {w : World} (hp : 0 ≤ p ∧ p ≤ 1000) : Calls Try.prog 61 #[.int .i64 p, .int .i64 y, .int .i64 n] w fun e w' => e = .returned (.bool (canV p y n)) ∧ w = w' := by
  cases q : inr y 0 p with
  | false =>
    have HV := Lib.hid (show canV p y n = false by unfold canV; rw [q]; rfl)
    have HQ := Lib.hid q
    clear q
    go_enter Try.func61, Try.ntmps61
    go_wp2_with fail
    refine (inRange_any _ _ _ _).mono ?_
    rintro e u ⟨rfl, rfl⟩
    rw [HQ.out]
    go_wp2_with fail
    go_ret
    exact ⟨ret_b HV.out.symm, rfl⟩
  | true =>
    have HV := Lib.hid (show canV p y n = inr n 0 (p - y) by unfold canV; rw [q]; rfl)
    have hq := in_iff.1 q
    have ww := IntWalk.i64_in (p - y) (by omega)
    have HQ := Lib.hid q
    clear q
    go_enter Try.func61, Try.ntmps61
    go_wp2_with fail
    refine (inRange_any _ _ _ _).mono ?_
    rintro e u ⟨rfl, rfl⟩
    rw [HQ.out]
    go_wp2_with fail
    refine (inRange_any _ _ _ _).mono ?_
    rintro e u ⟨rfl, rfl⟩
    go_wp2_with fail
    go_ret
    exact ⟨ret_b HV.out.symm, rfl⟩
theorem impIsQuorum_any {m p : Int} {w : World} : Calls Try.prog 24 #[.int .i64 m, .int .i64 p] w fun e w' => e = .returned (.bool (quoB m p)) ∧ w = w' := by
  cases q : canP m p with
  | false =>
    have HV := Lib.hid (show quoB m p = false by unfold quoB; rw [q]; rfl)
    have HQ := Lib.hid q
    clear q
    go_enter Try.func24, Try.ntmps24
    go_wp2_with fail
    refine canP_any.mono ?_
    rintro e u ⟨rfl, rfl⟩
    rw [HQ.out]
    go_wp2_with fail
    go_ret
    exact ⟨ret_b HV.out.symm, rfl⟩
  | true =>
    have HV := Lib.hid (show quoB m p = decide (m < 2 * p) by unfold quoB; rw [q]; rfl)
    have hq := canP_iff.1 q
    have ww := IntWalk.i64_in (2 * p) (by omega)
    have HQ := Lib.hid q
    clear q
    go_enter Try.func24, Try.ntmps24
    go_wp2_with fail
    refine canP_any.mono ?_
    rintro e u ⟨rfl, rfl⟩
    rw [HQ.out]
    go_wp2_with fail
    go_ret
    exact ⟨ret_b HV.out.symm, rfl⟩
theorem specIsQuorum_any {m p : Int} {w : World} : Calls Try.prog 44 #[.int .i64 m, .int .i64 p] w fun e w' => e = .returned (.bool (quoB m p)) ∧ w = w' := by
  cases q1 : inr m 1 1000 with
  | false =>
    have HV := Lib.hid (show quoB m p = false by unfold quoB canP; rw [q1]; rfl)
    have HQ := Lib.hid q1
    clear q1
    go_enter Try.func44, Try.ntmps44
    go_wp2_with fail
    refine (l1In_any _ _ _ _).mono ?_
    rintro e u ⟨rfl, rfl⟩
    rw [HQ.out]
    go_wp2_with fail
    go_ret
    exact ⟨ret_b HV.out.symm, rfl⟩
  | true =>
    cases q2 : inr p 0 m with
    | false =>
      have HV := Lib.hid (show quoB m p = false by unfold quoB canP; rw [q1, q2]; rfl)
      have HQ := Lib.hid q1
      have HR := Lib.hid q2
      clear q1 q2
      go_enter Try.func44, Try.ntmps44
      go_wp2_with fail
      refine (l1In_any _ _ _ _).mono ?_
      rintro e u ⟨rfl, rfl⟩
      rw [HQ.out]
      go_wp2_with fail
      refine (l1In_any _ _ _ _).mono ?_
      rintro e u ⟨rfl, rfl⟩
      rw [HR.out]
      go_wp2_with fail
      go_ret
      exact ⟨ret_b HV.out.symm, rfl⟩
    | true =>
      have HV := Lib.hid (show quoB m p = decide (m < 2 * p) by unfold quoB canP; rw [q1, q2]; rfl)
      have h1 := in_iff.1 q1
      have h2 := in_iff.1 q2
      have ww := IntWalk.i64_in (2 * p) (by omega)
      have HQ := Lib.hid q1
      have HR := Lib.hid q2
      clear q1 q2
      go_enter Try.func44, Try.ntmps44
      go_wp2_with fail
      refine (l1In_any _ _ _ _).mono ?_
      rintro e u ⟨rfl, rfl⟩
      rw [HQ.out]
      go_wp2_with fail
      refine (l1In_any _ _ _ _).mono ?_
      rintro e u ⟨rfl, rfl⟩
      rw [HR.out]
      go_wp2_with fail
      go_ret
      exact ⟨ret_b HV.out.symm, rfl⟩
set_option maxHeartbeats 1000000 in
theorem impPasses_any {y n : Int} {t : Bool} {w : World} : Calls Try.prog 25 #[.int .i64 y, .int .i64 n, .bool t] w fun e w' => e = .returned (.bool (pasB y n t)) ∧ w = w' := by
  cases q1 : inr y 0 1000 with
  | false =>
    have HV := Lib.hid (show pasB y n t = false by unfold pasB votB; rw [q1]; rfl)
    have HQ := Lib.hid q1
    clear q1
    go_enter Try.func25, Try.ntmps25
    go_wp2_with fail
    refine (inRange_any _ _ _ _).mono ?_
    rintro e u ⟨rfl, rfl⟩
    rw [HQ.out]
    go_wp2_with fail
    go_ret
    exact ⟨ret_b HV.out.symm, rfl⟩
  | true =>
    cases q2 : inr n 0 1000 with
    | false =>
      have HV := Lib.hid (show pasB y n t = false by unfold pasB votB; rw [q1, q2]; rfl)
      have HQ := Lib.hid q1
      have HR := Lib.hid q2
      clear q1 q2
      go_enter Try.func25, Try.ntmps25
      go_wp2_with fail
      refine (inRange_any _ _ _ _).mono ?_
      rintro e u ⟨rfl, rfl⟩
      rw [HQ.out]
      go_wp2_with fail
      refine (inRange_any _ _ _ _).mono ?_
      rintro e u ⟨rfl, rfl⟩
      rw [HR.out]
      go_wp2_with fail
      go_ret
      exact ⟨ret_b HV.out.symm, rfl⟩
    | true =>
      have h1 := in_iff.1 q1
      have h2 := in_iff.1 q2
      have ww := IntWalk.i64_in (2 * n) (by omega)
      have HE := Lib.hid (show pasB y n t = pasV y n t by unfold pasB votB; rw [q1, q2]; rfl)
      have HQ := Lib.hid q1
      have HR := Lib.hid q2
      clear q1 q2
      cases t with
      | false =>
        have HV := Lib.hid (show pasB y n false = decide (n < y) from HE.out)
        clear HE
        go_enter Try.func25, Try.ntmps25
        go_wp2_with fail
        refine (inRange_any _ _ _ _).mono ?_
        rintro e u ⟨rfl, rfl⟩
        rw [HQ.out]
        go_wp2_with fail
        refine (inRange_any _ _ _ _).mono ?_
        rintro e u ⟨rfl, rfl⟩
        rw [HR.out]
        go_wp2_with fail
        go_ret
        exact ⟨ret_b HV.out.symm, rfl⟩
      | true =>
        by_cases c : 0 < y
        · have d : decide (0 < y) = true := decide_eq_true c
          have HV := Lib.hid (show pasB y n true = decide (2 * n ≤ y) by rw [HE.out]; simp [pasV, c])
          clear HE
          go_enter Try.func25, Try.ntmps25
          go_wp2_with fail
          refine (inRange_any _ _ _ _).mono ?_
          rintro e u ⟨rfl, rfl⟩
          rw [HQ.out]
          go_wp2_with fail
          refine (inRange_any _ _ _ _).mono ?_
          rintro e u ⟨rfl, rfl⟩
          rw [HR.out]
          go_wp2_with fail
          go_ret
          exact ⟨ret_b HV.out.symm, rfl⟩
        · have d : decide (0 < y) = false := decide_eq_false c
          have HV := Lib.hid (show pasB y n true = false by rw [HE.out]; simp [pasV, c])
          clear HE
          go_enter Try.func25, Try.ntmps25
          go_wp2_with fail
          refine (inRange_any _ _ _ _).mono ?_
          rintro e u ⟨rfl, rfl⟩
          rw [HQ.out]
          go_wp2_with fail
          refine (inRange_any _ _ _ _).mono ?_
          rintro e u ⟨rfl, rfl⟩
          rw [HR.out]
          go_wp2_with fail
          go_ret
          exact ⟨ret_b HV.out.symm, rfl⟩
set_option maxHeartbeats 1000000 in
theorem specPasses_any {y n : Int} {t : Bool} {w : World} : Calls Try.prog 45 #[.int .i64 y, .int .i64 n, .bool t] w fun e w' => e = .returned (.bool (pasB y n t)) ∧ w = w' := by
  cases q1 : inr y 0 1000 with
  | false =>
    have HV := Lib.hid (show pasB y n t = false by unfold pasB votB; rw [q1]; rfl)
    have HQ := Lib.hid q1
    clear q1
    go_enter Try.func45, Try.ntmps45
    go_wp2_with fail
    refine (l1In_any _ _ _ _).mono ?_
    rintro e u ⟨rfl, rfl⟩
    rw [HQ.out]
    go_wp2_with fail
    go_ret
    exact ⟨ret_b HV.out.symm, rfl⟩
  | true =>
    cases q2 : inr n 0 1000 with
    | false =>
      have HV := Lib.hid (show pasB y n t = false by unfold pasB votB; rw [q1, q2]; rfl)
      have HQ := Lib.hid q1
      have HR := Lib.hid q2
      clear q1 q2
      go_enter Try.func45, Try.ntmps45
      go_wp2_with fail
      refine (l1In_any _ _ _ _).mono ?_
      rintro e u ⟨rfl, rfl⟩
      rw [HQ.out]
      go_wp2_with fail
      refine (l1In_any _ _ _ _).mono ?_
      rintro e u ⟨rfl, rfl⟩
      rw [HR.out]
      go_wp2_with fail
      go_ret
      exact ⟨ret_b HV.out.symm, rfl⟩
    | true =>
      have h1 := in_iff.1 q1
      have h2 := in_iff.1 q2
      have ww := IntWalk.i64_in (2 * n) (by omega)
      have HE := Lib.hid (show pasB y n t = pasV y n t by unfold pasB votB; rw [q1, q2]; rfl)
      have HQ := Lib.hid q1
      have HR := Lib.hid q2
      clear q1 q2
      cases t with
      | false =>
        have HV := Lib.hid (show pasB y n false = decide (n < y) from HE.out)
        clear HE
        go_enter Try.func45, Try.ntmps45
        go_wp2_with fail
        refine (l1In_any _ _ _ _).mono ?_
        rintro e u ⟨rfl, rfl⟩
        rw [HQ.out]
        go_wp2_with fail
        refine (l1In_any _ _ _ _).mono ?_
        rintro e u ⟨rfl, rfl⟩
        rw [HR.out]
        go_wp2_with fail
        go_ret
        exact ⟨ret_b HV.out.symm, rfl⟩
      | true =>
        by_cases c : 2 * n ≤ y
        · have d : decide (2 * n ≤ y) = true := decide_eq_true c
          have HV := Lib.hid (show pasB y n true = decide (0 < y) by rw [HE.out]; simp [pasV, c])
          clear HE
          go_enter Try.func45, Try.ntmps45
          go_wp2_with fail
          refine (l1In_any _ _ _ _).mono ?_
          rintro e u ⟨rfl, rfl⟩
          rw [HQ.out]
          go_wp2_with fail
          refine (l1In_any _ _ _ _).mono ?_
          rintro e u ⟨rfl, rfl⟩
          rw [HR.out]
          go_wp2_with fail
          go_ret
          exact ⟨ret_b HV.out.symm, rfl⟩
        · have d : decide (2 * n ≤ y) = false := decide_eq_false c
          have HV := Lib.hid (show pasB y n true = false by rw [HE.out]; simp [pasV, c])
          clear HE
          go_enter Try.func45, Try.ntmps45
          go_wp2_with fail
          refine (l1In_any _ _ _ _).mono ?_
          rintro e u ⟨rfl, rfl⟩
          rw [HQ.out]
          go_wp2_with fail
          refine (l1In_any _ _ _ _).mono ?_
          rintro e u ⟨rfl, rfl⟩
          rw [HR.out]
          go_wp2_with fail
          go_ret
          exact ⟨ret_b HV.out.symm, rfl⟩
theorem impCastingVote_any {y n : Int} {t : Bool} {w : World} : Calls Try.prog 29 #[.int .i64 y, .int .i64 n, .bool t] w fun e w' => e = .returned (.bool (castB y n t)) ∧ w = w' := by
  rcases Int.lt_trichotomy y n with h | h | h
  · have HV := Lib.hid (show castB y n t = false by simp [castB, show ¬ n < y by omega, show ¬ y = n by omega])
    have d1 : decide (n < y) = false := decide_eq_false (by omega)
    have d2 : (y == n) = false := by simpa using (show ¬ y = n by omega)
    go_enter Try.func29, Try.ntmps29
    go_wp2_with fail
    go_ret
    exact ⟨ret_b HV.out.symm, rfl⟩
  · subst h
    have HV := Lib.hid (show castB y y t = t by simp [castB])
    go_enter Try.func29, Try.ntmps29
    go_wp2_with fail
    go_ret
    exact ⟨ret_b HV.out.symm, rfl⟩
  · have HV := Lib.hid (show castB y n t = true by simp [castB, h])
    have d1 : decide (n < y) = true := decide_eq_true h
    go_enter Try.func29, Try.ntmps29
    go_wp2_with fail
    go_ret
    exact ⟨ret_b HV.out.symm, rfl⟩
theorem specCastingVote_any {y n : Int} {t : Bool} {w : World} : Calls Try.prog 48 #[.int .i64 y, .int .i64 n, .bool t] w fun e w' => e = .returned (.bool (castB y n t)) ∧ w = w' := by
  rcases Int.lt_trichotomy y n with h | h | h
  · have HV := Lib.hid (show castB y n t = false by simp [castB, show ¬ n < y by omega, show ¬ y = n by omega])
    have d1 : decide (n < y) = false := decide_eq_false (by omega)
    have d2 : (y == n) = false := by simpa using (show ¬ y = n by omega)
    go_enter Try.func48, Try.ntmps48
    go_wp2_with fail
    go_ret
    exact ⟨ret_b HV.out.symm, rfl⟩
  · subst h
    have HV := Lib.hid (show castB y y t = t by simp [castB])
    go_enter Try.func48, Try.ntmps48
    go_wp2_with fail
    go_ret
    exact ⟨ret_b HV.out.symm, rfl⟩
  · have HV := Lib.hid (show castB y n t = true by simp [castB, h])
    have d1 : decide (n < y) = true := decide_eq_true h
    go_enter Try.func48, Try.ntmps48
    go_wp2_with fail
    go_ret
    exact ⟨ret_b HV.out.symm, rfl⟩
set_option maxHeartbeats 1000000 in
theorem specLeastYes_any {v : Int} {t : Bool} {w : World} : Calls Try.prog 47 #[.int .i64 v, .bool t] w fun e w' => e = .returned (.int .i64 (leaI v t)) ∧ w = w' := by
  cases q : inr v 0 1000 with
  | false =>
    have HV := Lib.hid (lea_no (t := t) q)
    have HQ := Lib.hid q
    clear q
    by_cases c : 0 ≤ v
    · have d : decide (0 ≤ v) = true := decide_eq_true c
      go_enter Try.func47, Try.ntmps47
      go_wp2_with fail
      refine wp_loop_rounds 1 ?_
      rw [rounds_succ]
      go_wp2_with fail
      refine (l1In_any _ _ _ _).mono ?_
      rintro e u ⟨rfl, rfl⟩
      rw [HQ.out]
      go_wp2_with fail
      go_ret
      exact ⟨ret_i HV.out.symm, rfl⟩
    · have d : decide (0 ≤ v) = false := decide_eq_false c
      go_enter Try.func47, Try.ntmps47
      go_wp2_with fail
      refine wp_loop_rounds 1 ?_
      rw [rounds_succ]
      go_wp2_with fail
      go_ret
      exact ⟨ret_i HV.out.symm, rfl⟩
  | true =>
    have hv := in_iff.1 q
    have HS := Lib.hid (fun (k : Nat) (h : NoP v t k) (hk : (k : Int) ≤ v) (h2 : pasB (k : Int) (v - k) t = true) => lea_some q h hk h2)
    have HF := Lib.hid (fun (k : Nat) (h : NoP v t k) (hk : v < (k : Int)) => lea_none q h hk)
    have HQ := Lib.hid q
    clear q
    obtain ⟨n, rfl⟩ := Int.eq_ofNat_of_zero_le hv.1
    have hn : n ≤ 1000 := by omega
    clear hv
    go_enter Try.func47, Try.ntmps47
    go_wp2_with fail
    go_loopw [5] (fun i wr => ∃ k : Nat, k ≤ n + 1 ∧ i = .int .i64 k ∧ wr = w ∧ Hid (NoP n t k)) (fun i _ => n + 1 - (intOf i).toNat)
    case atStart => exact ⟨0, Nat.zero_le _, rfl, rfl, Lib.hid NoP.zero⟩
    case round =>
      obtain ⟨k, hk, rfl, rfl, hno⟩ := hrel
      have i0 : (0 : Int) ≤ (k : Int) := by omega
      by_cases hlt : k ≤ n
      · have i1 : decide ((k : Int) ≤ (n : Int)) = true := decide_eq_true (by omega)
        have ww := IntWalk.i64_in ((n : Int) - (k : Int)) (by omega)
        cases c : pasB (k : Int) ((n : Int) - k) t with
        | true =>
          have HV := Lib.hid (HS.out k hno.out (by omega) c)
          have HC := Lib.hid c
          clear c
          go_wp2_with fail
          refine (l1In_any _ _ _ _).mono ?_
          rintro e u ⟨rfl, rfl⟩
          rw [HQ.out]
          go_wp2_with fail
          refine specPasses_any.mono ?_
          rintro e u ⟨rfl, rfl⟩
          rw [HC.out]
          go_wp2_with fail
          go_ret
          exact ⟨ret_i HV.out.symm, rfl⟩
        | false =>
          have HN := Lib.hid (hno.out.succ c)
          have HC := Lib.hid c
          clear c
          go_wp2_with fail
          refine (l1In_any _ _ _ _).mono ?_
          rintro e u ⟨rfl, rfl⟩
          rw [HQ.out]
          go_wp2_with fail
          refine specPasses_any.mono ?_
          rintro e u ⟨rfl, rfl⟩
          rw [HC.out]
          go_wp2_with fail
          go_roundw
          case rel => exact ⟨k + 1, by omega, by go_num, trivial, HN⟩
          case measure => simp [intOf]; omega
      · have i1 : decide ((k : Int) ≤ (n : Int)) = false := decide_eq_false (by omega)
        have HV := Lib.hid (HF.out k hno.out (by omega))
        go_wp2_with fail
        go_ret
        exact ⟨ret_i HV.out.symm, rfl⟩
set_option maxHeartbeats 1000000 in
theorem impLeastYes_any {v : Int} {t : Bool} {w : World} : Calls Try.prog 27 #[.int .i64 v, .bool t] w fun e w' => e = .returned (.int .i64 (leaI v t)) ∧ w = w' := by
  cases q : inr v 0 1000 with
  | false =>
    have HV := Lib.hid (lea_no (t := t) q)
    have HQ := Lib.hid q
    clear q
    go_enter Try.func27, Try.ntmps27
    go_wp2_with fail
    refine (inRange_any _ _ _ _).mono ?_
    rintro e u ⟨rfl, rfl⟩
    rw [HQ.out]
    go_wp2_with fail
    go_ret
    exact ⟨ret_i HV.out.symm, rfl⟩
  | true =>
    have hv := in_iff.1 q
    have HS := Lib.hid (fun (k : Nat) (h : NoP v t k) (hk : (k : Int) ≤ v) (h2 : pasB (k : Int) (v - k) t = true) => lea_some q h hk h2)
    have HF := Lib.hid (fun (k : Nat) (h : NoP v t k) (hk : v < (k : Int)) => lea_none q h hk)
    have HQ := Lib.hid q
    clear q
    obtain ⟨n, rfl⟩ := Int.eq_ofNat_of_zero_le hv.1
    have hn : n ≤ 1000 := by omega
    clear hv
    go_enter Try.func27, Try.ntmps27
    go_wp2_with fail
    refine (inRange_any _ _ _ _).mono ?_
    rintro e u ⟨rfl, rfl⟩
    rw [HQ.out]
    go_wp2_with fail
    go_loopw [11] (fun i wr => ∃ k : Nat, k ≤ n + 1 ∧ i = .int .i64 k ∧ wr = w ∧ Hid (NoP n t k)) (fun i _ => n + 1 - (intOf i).toNat)
    case atStart => exact ⟨0, Nat.zero_le _, rfl, rfl, Lib.hid NoP.zero⟩
    case round =>
      obtain ⟨k, hk, rfl, rfl, hno⟩ := hrel
      have i0 : (0 : Int) ≤ (k : Int) := by omega
      by_cases hlt : k ≤ n
      · have i1 : decide ((k : Int) < (n : Int) + 1) = true := decide_eq_true (by omega)
        have ww := IntWalk.i64_in ((n : Int) - (k : Int)) (by omega)
        cases c : pasB (k : Int) ((n : Int) - k) t with
        | true =>
          have HV := Lib.hid (HS.out k hno.out (by omega) c)
          have HC := Lib.hid c
          clear c
          go_wp2_with fail
          refine impPasses_any.mono ?_
          rintro e u ⟨rfl, rfl⟩
          rw [HC.out]
          go_wp2_with fail
          go_ret
          exact ⟨ret_i HV.out.symm, rfl⟩
        | false =>
          have HN := Lib.hid (hno.out.succ c)
          have HC := Lib.hid c
          clear c
          go_wp2_with fail
          refine impPasses_any.mono ?_
          rintro e u ⟨rfl, rfl⟩
          rw [HC.out]
          go_wp2_with fail
          go_roundw
          case rel => exact ⟨k + 1, by omega, by go_num, trivial, HN⟩
          case measure => simp [intOf]; omega
      · have i1 : decide ((k : Int) < (n : Int) + 1) = false := decide_eq_false (by omega)
        have HV := Lib.hid (HF.out k hno.out (by omega))
        go_wp2_with fail
        go_ret
        exact ⟨ret_i HV.out.symm, rfl⟩
end Go.Proofs.Ytdpaoaoipnoiiaa
