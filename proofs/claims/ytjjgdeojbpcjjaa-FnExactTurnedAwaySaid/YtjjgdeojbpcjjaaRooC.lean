/- Contracts of the code of chapter 22: AreRooms, SeatsIn. Condition: the slice has at most 2^40 elements. -/
import Derived.Test.YtjjgdeojbpcjjaaRooMath
import Derived.Test.YtjjgdeojbpcjjaaHascR
namespace Go.Proofs.Ytjjgdeojbpcjjaa
open Go.ChangeShapes Go.WideShapes Go.ChangeAt Go.RowKit
set_option maxRecDepth 100000
section
variable {w : World} {A : Option Addr} {n c : Nat} {X : List T2}
set_option maxHeartbeats 4000000 in
theorem impAreRooms_any (hl : Hid (X.length = n)) (hn : n ≤ 1099511627776) (hr : Rd w w.heap.size A (t2s X)) :
    Calls Try.prog 116 #[.slice A n c] w (Tells (roB X) w) := by
  by_cases hbig : 20 < n
  · have HV := Lib.hid (ro_big (X := X) (by rw [hl.out]; exact hbig))
    have i1 : (20 : Int) < (n : Int) := by omega
    go_enter Try.func116, Try.ntmps116
    go_wp2_with fail
    go_ret
    exact ⟨ret_b HV.out.symm, Below.refl _ _⟩
  have i9 : ¬ (20 : Int) < (n : Int) := by omega
  cases hasc : ascB (roIds X) with
  | false =>
    have HV := Lib.hid (ro_noasc hasc)
    have HA := Lib.hid (show ascB (X.map (·.1)) = false from hasc)
    clear hasc
    go_enter Try.func116, Try.ntmps116
    go_wp2_with fail
    refine (room_asc hl hn hr).mono ?_
    rintro e w1 ⟨rfl, hb⟩
    rw [HA.out]
    go_wp2_with fail
    go_ret
    exact ⟨ret_b HV.out.symm, hb⟩
  | true =>
    have HA := Lib.hid (show ascB (X.map (·.1)) = true from hasc)
    have HAS := Lib.hid hasc
    clear hasc
    go_enter Try.func116, Try.ntmps116
    go_wp2_with fail
    refine (room_asc hl hn hr).mono ?_
    rintro e w1 ⟨rfl, hb1⟩
    rw [HA.out]
    go_wp2_with fail
    go_loopw [15] (fun i wr => ∃ k : Nat, k ≤ n ∧ i = .int .i64 k ∧ Hid ((X.take k).all roOk = true) ∧ Below w.heap.size w wr) (fun i _ => n - (intOf i).toNat)
    case atStart => exact ⟨0, Nat.zero_le _, rfl, Lib.hid rfl, hb1⟩
    case round =>
      obtain ⟨k, hk, rfl, ha, hb⟩ := hrel
      have hsz := hb.size
      by_cases hlt : k < n
      · have hkz : k < X.length := by rw [hl.out]; exact hlt
        obtain ⟨ad, p, rfl, hp, hab, h0, h1⟩ := t2_cells ((hr.below hb).more hsz) hkz
        have i0 : (0 : Int) ≤ (k : Int) := by omega
        have i1 : (k : Int) < (n : Int) := by omega
        have HS := Lib.hid (fun h => ro_allsnoc ha.out hkz h)
        have HN := Lib.hid (fun h => ro_noseat hkz h)
        obtain ⟨x, hxe⟩ : ∃ x, x = X[k] := ⟨_, rfl⟩
        rw [← hxe] at h0 h1 HS HN
        have hb2 := hb.trans (((Below.refl wr.heap.size wr).alloc (Nat.le_refl _) (Obj.cells #[Value.int .i64 x.1, .int .i64 x.2] 131)).mono hsz)
        clear hxe
        cases hx : roOk x with
        | false =>
          have HV := Lib.hid (HN.out hx)
          have HX := Lib.hid (show inr x.2 1 1000 = false from hx)
          clear hx
          go_wp2_with fail
          refine (inRange_any _ _ _ _).mono ?_
          rintro e u ⟨rfl, rfl⟩
          rw [HX.out]
          go_wp2_with fail
          go_ret
          exact ⟨ret_b HV.out.symm, hb2⟩
        | true =>
          have HP := Lib.hid (HS.out hx)
          have HX := Lib.hid (show inr x.2 1 1000 = true from hx)
          clear hx
          go_wp2_with fail
          refine (inRange_any _ _ _ _).mono ?_
          rintro e u ⟨rfl, rfl⟩
          rw [HX.out]
          go_wp2_with fail
          go_roundw
          case rel => exact ⟨k + 1, by omega, by go_num, HP, hb2⟩
          case measure => simp [intOf]; omega
      · have e : k = n := by omega
        subst e
        have HV := Lib.hid (ro_yes HAS.out (by rw [hl.out]; exact ha.out) (by rw [hl.out]; omega))
        go_wp2_with fail
        go_ret
        exact ⟨ret_b HV.out.symm, hb⟩
end
end Go.Proofs.Ytjjgdeojbpcjjaa
