/- Contracts of the models of chapter 18: AreHearers, Moved, l18After, Gain, Unmoved. Condition: the slice has at most 2^40 elements. -/
import Derived.Test.YtjjgdeojbpcjjaaHalMath
import Derived.Test.YtjjgdeojbpcjjaaGraph
namespace Go.Proofs.Ytjjgdeojbpcjjaa
open Go.ChangeShapes Go.WideShapes Go.ChangeAt Go.RowKit
set_option maxRecDepth 100000
section
variable {w : World} {A : Option Addr} {n c : Nat} {X : List T2}
set_option maxHeartbeats 2000000 in
theorem specAreHearers_any (hl : Hid (X.length = n)) (hn : n ≤ 1099511627776) (hr : Rd w w.heap.size A (t2s X)) :
    Calls Try.prog 76 #[.slice A n c] w (Tells (hrB X) w) := by
  go_enter Try.func76, Try.ntmps76
  go_wp2_with fail
  go_loopw [3] (fun i wr => ∃ k : Nat, k ≤ n ∧ i = .int .i64 k ∧ Hid ((X.take k).all hrOk = true) ∧ wr = w) (fun i _ => n - (intOf i).toNat)
  case atStart => exact ⟨0, Nat.zero_le _, rfl, Lib.hid rfl, rfl⟩
  case round =>
    obtain ⟨k, hk, rfl, ha, rfl⟩ := hrel
    by_cases hlt : k < n
    · have hkz : k < X.length := by rw [hl.out]; exact hlt
      obtain ⟨ad, p, rfl, hp, hab, h0, h1⟩ := t2_cells hr hkz
      have i0 : (0 : Int) ≤ (k : Int) := by omega
      have i1 : (k : Int) < (n : Int) := by omega
      cases hx : hrOk X[k] with
      | false =>
        have HV := Lib.hid (hr_no hkz hx)
        obtain ⟨x, hxe⟩ : ∃ x, x = X[k] := ⟨_, rfl⟩
        rw [← hxe] at h0 h1 hx
        unfold hrOk at hx
        clear hxe
        cases q1 : inr x.1 0 2 with
        | false =>
          have HQ := Lib.hid q1
          clear hx q1
          go_wp2_with fail
          refine (l1In_any _ _ _ _).mono ?_
          rintro e u ⟨rfl, rfl⟩
          rw [HQ.out]
          go_wp2_with fail
          go_ret
          exact ⟨ret_b HV.out.symm, Below.refl _ _⟩
        | true =>
          rw [q1, Bool.true_and] at hx
          have HQ := Lib.hid q1
          have HX := Lib.hid hx
          clear hx q1
          go_wp2_with fail
          refine (l1In_any _ _ _ _).mono ?_
          rintro e u ⟨rfl, rfl⟩
          rw [HQ.out]
          go_wp2_with fail
          refine (l1In_any _ _ _ _).mono ?_
          rintro e u ⟨rfl, rfl⟩
          rw [HX.out]
          go_wp2_with fail
          go_ret
          exact ⟨ret_b HV.out.symm, Below.refl _ _⟩
      | true =>
        have HP := Lib.hid (hr_snoc ha.out hkz hx)
        obtain ⟨x, hxe⟩ : ∃ x, x = X[k] := ⟨_, rfl⟩
        rw [← hxe] at h0 h1 hx
        unfold hrOk at hx
        obtain ⟨q1, q2⟩ := Bool.and_eq_true_iff.1 hx
        have HQ := Lib.hid q1
        have HX := Lib.hid q2
        clear hx q1 q2 hxe
        go_wp2_with fail
        refine (l1In_any _ _ _ _).mono ?_
        rintro e u ⟨rfl, rfl⟩
        rw [HQ.out]
        go_wp2_with fail
        refine (l1In_any _ _ _ _).mono ?_
        rintro e u ⟨rfl, rfl⟩
        rw [HX.out]
        go_wp2_with fail
        go_roundw
        case rel => exact ⟨k + 1, by omega, by go_num, HP, trivial⟩
        case measure => simp [intOf]; omega
    · have e : k = n := by omega
      subst e
      have HV := Lib.hid (hr_end hl.out ha.out)
      go_wp2_with fail
      go_ret
      refine ⟨ret_b ?_, Below.refl _ _⟩
      rw [HV.out]
      exact (decide_eq_decide.2 (by omega))
set_option maxHeartbeats 2000000 in
theorem l18After_any {B : Nat} {s : Int} (hl : Hid (X.length = n)) (hn : n ≤ 1099511627776) (hr : Rd w B A (t2s X)) :
    Calls Try.prog 78 #[.slice A n c, .int .i64 s] w (fun e w' => e = .returned (.int .i64 (aftN X s)) ∧ w = w') := by
  go_enter Try.func78, Try.ntmps78
  go_wp2_with fail
  go_loopw [5, 6] (fun m i wr => ∃ k q : Nat, k ≤ n ∧ q ≤ k ∧ i = .int .i64 k ∧ m = .int .i64 q ∧ Hid (q = cnt2 (afF s) X k) ∧ wr = w) (fun _ i _ => n - (intOf i).toNat)
  case atStart => exact ⟨0, 0, Nat.zero_le _, Nat.zero_le _, rfl, rfl, Lib.hid rfl, rfl⟩
  case round =>
    obtain ⟨k, q, hk, hqk, rfl, rfl, hq, rfl⟩ := hrel
    by_cases hlt : k < n
    · have hkz : k < X.length := by rw [hl.out]; exact hlt
      obtain ⟨ad, p, rfl, hp, hab, h0, h1⟩ := t2_cells hr hkz
      have i0 : (0 : Int) ≤ (k : Int) := by omega
      have i1 : (k : Int) < (n : Int) := by omega
      have HS := Lib.hid (cnt2_succ (afF s) hkz)
      obtain ⟨x, hxe⟩ : ∃ x, x = X[k] := ⟨_, rfl⟩
      rw [← hxe] at h0 h1 HS
      clear hxe
      by_cases q2 : x.2 = s
      · have HN := Lib.hid (show q + 1 = cnt2 (afF s) X (k + 1) by rw [HS.out, hq.out]; simp [afF, q2])
        rw [q2] at h1
        clear q2
        go_wp2_with fail
        go_roundw
        case rel => exact ⟨k + 1, q + 1, by omega, by omega, by go_num, by go_num, HN, trivial⟩
        case measure => simp [intOf]; omega
      · have HN := Lib.hid (show q = cnt2 (afF s) X (k + 1) by rw [HS.out, hq.out]; simp [afF, q2])
        have q2' : (x.2 == s) = false := by simpa using q2
        go_wp2_with fail
        go_roundw
        case rel => exact ⟨k + 1, q, by omega, by omega, by go_num, by go_num, HN, trivial⟩
        case measure => simp [intOf]; omega
    · have e : k = n := by omega
      subst e
      have HV := Lib.hid (show q = aftN X s by rw [hq.out, cnt2_all _ hl.out]; rfl)
      go_wp2_with fail
      go_ret
      exact ⟨ret_i (by rw [HV.out]), rfl⟩
set_option maxHeartbeats 2000000 in
theorem specGain_any {s : Int} (hl : Hid (X.length = n)) (hn : n ≤ 1099511627776) (hr : Rd w w.heap.size A (t2s X)) :
    Calls Try.prog 77 #[.slice A n c, .int .i64 s] w (fun e w' => e = .returned (.int .i64 (gaiI X s)) ∧ Below w.heap.size w w') := by
  have hA0 : aftN X s ≤ n := by have := cnt2_le (afF s) X n; rw [cnt2_all _ hl.out] at this; exact this
  obtain ⟨T, hT⟩ : ∃ T, aftN X s = T := ⟨_, rfl⟩
  have HT := Lib.hid hT
  rw [hT] at hA0
  clear hT
  go_enter Try.func77, Try.ntmps77
  go_wp2_with fail
  refine (l18After_any hl hn hr).mono ?_
  rintro e w1 ⟨rfl, rfl⟩
  rw [HT.out]
  go_wp2_with fail
  go_loopw [5, 6] (fun m i wr => ∃ (k q : Nat) (z : Int), k ≤ n ∧ q ≤ k ∧ i = .int .i64 k ∧ m = .int .i64 z ∧ Hid (z = (T : Int) - (q : Int)) ∧ -(n : Int) ≤ z ∧ z ≤ (n : Int) ∧ Hid (q = cnt2 (beF s) X k) ∧ wr = w) (fun _ i _ => n - (intOf i).toNat)
  case atStart => exact ⟨0, 0, _, Nat.zero_le _, Nat.zero_le _, rfl, rfl, Lib.hid (by simp), by omega, by omega, Lib.hid rfl, rfl⟩
  case round =>
    obtain ⟨k, q, z, hk, hqk, rfl, rfl, hz, hz1, hz2, hq, rfl⟩ := hrel
    by_cases hlt : k < n
    · have hkz : k < X.length := by rw [hl.out]; exact hlt
      obtain ⟨ad, p, rfl, hp, hab, h0, h1⟩ := t2_cells hr hkz
      have i0 : (0 : Int) ≤ (k : Int) := by omega
      have i1 : (k : Int) < (n : Int) := by omega
      have HS := Lib.hid (cnt2_succ (beF s) hkz)
      obtain ⟨x, hxe⟩ : ∃ x, x = X[k] := ⟨_, rfl⟩
      rw [← hxe] at h0 h1 HS
      clear hxe
      by_cases q2 : x.1 = s
      · have HN := Lib.hid (show q + 1 = cnt2 (beF s) X (k + 1) by rw [HS.out, hq.out]; simp [beF, q2])
        have hzz : -(n : Int) ≤ z - 1 := by have := hz.out; omega
        rw [q2] at h0
        clear q2
        go_wp2_with fail
        go_roundw
        case rel => exact ⟨k + 1, q + 1, z - 1, by omega, by omega, by go_num, by go_num, Lib.hid (by have := hz.out; omega), hzz, by omega, HN, trivial⟩
        case measure => simp [intOf]; omega
      · have HN := Lib.hid (show q = cnt2 (beF s) X (k + 1) by rw [HS.out, hq.out]; simp [beF, q2])
        have q2' : (x.1 == s) = false := by simpa using q2
        go_wp2_with fail
        go_roundw
        case rel => exact ⟨k + 1, q, z, by omega, by omega, by go_num, by go_num, hz, hz1, hz2, HN, trivial⟩
        case measure => simp [intOf]; omega
    · have e : k = n := by omega
      subst e
      have HV := Lib.hid (show z = gaiI X s by
        have h1 := hz.out
        have h2 := hq.out
        rw [cnt2_all _ hl.out] at h2
        unfold gaiI
        rw [HT.out, h1, h2]; rfl)
      go_wp2_with fail
      go_ret
      exact ⟨ret_i HV.out, Below.refl _ _⟩
end
end Go.Proofs.Ytjjgdeojbpcjjaa
