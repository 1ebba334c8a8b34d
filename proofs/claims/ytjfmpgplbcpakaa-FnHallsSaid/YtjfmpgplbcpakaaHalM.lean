/- Contracts of the models of chapter 18: AreHearers, Moved, l18After, Gain, Unmoved. Condition: the slice has at most 2^40 elements. -/
import Derived.Test.YtjfmpgplbcpakaaHalMath
import Derived.Test.YtjfmpgplbcpakaaGraph
namespace Go.Proofs.Ytjfmpgplbcpakaa
open Go.ChangeShapes Go.WideShapes Go.ChangeAt Go.RowKit
set_option maxRecDepth 100000
section
variable {w : World} {A : Option Addr} {n c : Nat} {X : List T2}
set_option maxHeartbeats 2000000 in
theorem specAreHearers_any (hl : Hid (X.length = n)) (hn : n ≤ 1099511627776) (hr : Rd w w.heap.size A (t2s X)) :
    Calls Try.prog 8 #[.slice A n c] w (Tells (hrB X) w) := by
  go_enter Try.func8, Try.ntmps8
  go_wp2_with fail
  go_loopw [3] (fun i wr => ∃ k : Nat, k ≤ n ∧ i = .int .i64 k ∧ Hid ((X.take k).all hrOk = true) ∧ wr = w) (fun i _ => n - (intOf i).toNat)
  case atStart => exact ⟨0, Nat.zero_le _, rfl, Lib.hid rfl, rfl⟩
  case round =>
    obtain ⟨k, hk, rfl, ha, rfl⟩ := hrel
    by_cases hlt : k < n
    · have hkz : k < X.length := by rw [hl.out]; exact hlt
      obtain ⟨ad, p, rfl, hp, hab, h0, h1⟩ := t2_cells hr hkz
      have i0 : (0 : Int) ≤ (k : Int) := by omega
      have i1 : (k : Int) < (n : Int) := by omega
      cases hx : hrOk X[k] with
      | false =>
        have HV := Lib.hid (hr_no hkz hx)
        obtain ⟨x, hxe⟩ : ∃ x, x = X[k] := ⟨_, rfl⟩
        rw [← hxe] at h0 h1 hx
        unfold hrOk at hx
        clear hxe
        cases q1 : inr x.1 0 2 with
        | false =>
          have HQ := Lib.hid q1
          clear hx q1
          go_wp2_with fail
          refine (l1In_any _ _ _ _).mono ?_
          rintro e u ⟨rfl, rfl⟩
          rw [HQ.out]
          go_wp2_with fail
          go_ret
          exact ⟨ret_b HV.out.symm, Below.refl _ _⟩
        | true =>
          rw [q1, Bool.true_and] at hx
          have HQ := Lib.hid q1
          have HX := Lib.hid hx
          clear hx q1
          go_wp2_with fail
          refine (l1In_any _ _ _ _).mono ?_
          rintro e u ⟨rfl, rfl⟩
          rw [HQ.out]
          go_wp2_with fail
          refine (l1In_any _ _ _ _).mono ?_
          rintro e u ⟨rfl, rfl⟩
          rw [HX.out]
          go_wp2_with fail
          go_ret
          exact ⟨ret_b HV.out.symm, Below.refl _ _⟩
      | true =>
        have HP := Lib.hid (hr_snoc ha.out hkz hx)
        obtain ⟨x, hxe⟩ : ∃ x, x = X[k] := ⟨_, rfl⟩
        rw [← hxe] at h0 h1 hx
        unfold hrOk at hx
        obtain ⟨q1, q2⟩ := Bool.and_eq_true_iff.1 hx
        have HQ := Lib.hid q1
        have HX := Lib.hid q2
        clear hx q1 q2 hxe
        go_wp2_with fail
        refine (l1In_any _ _ _ _).mono ?_
        rintro e u ⟨rfl, rfl⟩
        rw [HQ.out]
        go_wp2_with fail
        refine (l1In_any _ _ _ _).mono ?_
        rintro e u ⟨rfl, rfl⟩
        rw [HX.out]
        go_wp2_with fail
        go_roundw
        case rel => exact ⟨k + 1, by omega, by go_num, HP, trivial⟩
        case measure => simp [intOf]; omega
    · have e : k = n := by omega
      subst e
      have HV := Lib.hid (hr_end hl.out ha.out)
      go_wp2_with fail
      go_ret
      refine ⟨ret_b ?_, Below.refl _ _⟩
      rw [HV.out]
      exact (decide_eq_decide.2 (by omega))
end
end Go.Proofs.Ytjfmpgplbcpakaa
