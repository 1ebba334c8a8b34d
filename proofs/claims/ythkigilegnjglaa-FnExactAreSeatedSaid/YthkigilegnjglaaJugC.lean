/- Contract of the code's AreJudges. Condition: the slice has at most 2^40 elements, each judge's at most 2^20. -/
import Derived.Test.YthkigilegnjglaaMg9
import Derived.Test.YthkigilegnjglaaMg11
import Derived.Test.YthkigilegnjglaaHascI
namespace Go.Proofs.Ythkigilegnjglaa
open Go.ChangeShapes Go.WideShapes Go.ChangeAt Go.RowKit
set_option maxRecDepth 100000
set_option maxHeartbeats 4000000 in
theorem impAreJudges_any {w : World} {A : Option Addr} {n c : Nat} {X : List Jd} (hl : Hid (X.length = n)) (hn : n ≤ 1099511627776) (hs : Hid (∀ x ∈ X, x.seen.length ≤ 1048576)) (hr : RdJ w w.heap.size A X) :
    Calls Try.prog 105 #[.slice A n c] w (Tells (juB X) w) := by
  by_cases hbig : 10 < n
  · have HV := Lib.hid (ju_big (X := X) (by rw [hl.out]; exact hbig))
    have i1 : (10 : Int) < (n : Int) := by omega
    go_enter Try.func105, Try.ntmps105
    go_wp2_with fail
    go_ret
    exact ⟨ret_b HV.out.symm, Below.refl _ _⟩
  have i9 : ¬ (10 : Int) < (n : Int) := by omega
  cases hasc : ascB (juIds X) with
  | false =>
    have HV := Lib.hid (ju_noasc hasc)
    have HA := Lib.hid (show ascB (X.map Jd.id) = false from hasc)
    clear hasc
    go_enter Try.func105, Try.ntmps105
    go_wp2_with fail
    refine (judge_asc hl hn hr).mono ?_
    rintro e w1 ⟨rfl, hb⟩
    rw [HA.out]
    go_wp2_with fail
    go_ret
    exact ⟨ret_b HV.out.symm, hb⟩
  | true =>
    have HA := Lib.hid (show ascB (X.map Jd.id) = true from hasc)
    have HAS := Lib.hid hasc
    clear hasc
    go_enter Try.func105, Try.ntmps105
    go_wp2_with fail
    refine (judge_asc hl hn hr).mono ?_
    rintro e w1 ⟨rfl, hb1⟩
    rw [HA.out]
    go_wp2_with fail
    go_loopw [15] (fun i wr => ∃ k : Nat, k ≤ n ∧ i = .int .i64 k ∧ Hid ((X.take k).all juOk = true) ∧ Below w.heap.size w wr) (fun i _ => n - (intOf i).toNat)
    case atStart => exact ⟨0, Nat.zero_le _, rfl, Lib.hid rfl, hb1⟩
    case round =>
      obtain ⟨k, hk, rfl, ha, hb⟩ := hrel
      have hsz := hb.size
      by_cases hlt : k < n
      · have hkz : k < X.length := by rw [hl.out]; exact hlt
        obtain ⟨ad, p, rfl, hp, hab, Aj, cj, h0, h1, h2, _, _, hrj⟩ := ((hr.below hb).more hsz).at_ hkz
        have i0 : (0 : Int) ≤ (k : Int) := by omega
        have i1 : (k : Int) < (n : Int) := by omega
        have hsn := hs.out _ (List.getElem_mem hkz)
        have HS := Lib.hid (fun h => ju_allsnoc ha.out hkz h)
        have HN := Lib.hid (fun h => ju_noseat hkz h)
        obtain ⟨x, hxe⟩ : ∃ x, x = X[k] := ⟨_, rfl⟩
        rw [← hxe] at h0 h1 h2 hrj hsn HS HN
        obtain ⟨W1, hW⟩ : ∃ W1, wr.alloc (Obj.cells #[Value.int .i64 x.id, .int .i64 x.club, .slice Aj x.seen.length cj] 115) = W1 := ⟨_, rfl⟩
        have bx := Bx.made wr 115 #[Value.int .i64 x.id, .int .i64 x.club, .slice Aj x.seen.length cj]
        have hbx : Below wr.heap.size wr (wr.alloc (Obj.cells #[Value.int .i64 x.id, .int .i64 x.club, .slice Aj x.seen.length cj] 115)) := (Below.refl _ _).alloc (Nat.le_refl _) _
        rw [hW] at bx hbx
        have b1 : W1.cell? ⟨wr.heap.size, 1, none⟩ = some (.int .i64 x.club) := by rw [cell_of_row _ _ _ _ _ _ bx]; rfl
        have b2 : W1.cell? ⟨wr.heap.size, 2, none⟩ = some (.slice Aj x.seen.length cj) := by rw [cell_of_row _ _ _ _ _ _ bx]; rfl
        have HW := Lib.hid hW
        have hb2 := hb.trans (hbx.mono hsz)
        have hrx := (hrj.below hbx).more hbx.size
        clear hxe hW bx hrj
        cases hx : inr x.club 1 99 with
        | false =>
          have HV := Lib.hid (HN.out (juOk_c hx))
          have HX := Lib.hid hx
          clear hx
          go_wp2_with fail
          rw [HW.out]
          try (go_wp2_with fail)
          refine (isId_n).mono ?_
          rintro e u ⟨rfl, rfl⟩
          rw [HX.out]
          go_wp2_with fail
          go_ret
          exact ⟨ret_b HV.out.symm, hb2⟩
        | true =>
          have HX := Lib.hid hx
          cases hy : ascB x.seen with
          | false =>
            have HV := Lib.hid (HN.out (juOk_s hy))
            have HY := Lib.hid hy
            clear hx hy
            go_wp2_with fail
            rw [HW.out]
            try (go_wp2_with fail)
            refine (isId_n).mono ?_
            rintro e u ⟨rfl, rfl⟩
            rw [HX.out]
            go_wp2_with fail
            refine (intg_asc (Lib.hid rfl) (by omega) hrx).mono ?_
            rintro e u ⟨rfl, hbu⟩
            rw [HY.out]
            go_wp2_with fail
            go_ret
            exact ⟨ret_b HV.out.symm, hb2.trans (hbu.mono hb2.size)⟩
          | true =>
            have HP := Lib.hid (HS.out (juOk_y hx hy))
            have HY := Lib.hid hy
            clear hx hy
            go_wp2_with fail
            rw [HW.out]
            try (go_wp2_with fail)
            refine (isId_n).mono ?_
            rintro e u ⟨rfl, rfl⟩
            rw [HX.out]
            go_wp2_with fail
            refine (intg_asc (Lib.hid rfl) (by omega) hrx).mono ?_
            rintro e u ⟨rfl, hbu⟩
            rw [HY.out]
            have hb5 := hb2.trans (hbu.mono hb2.size)
            go_wp2_with fail
            go_roundw
            case rel => exact ⟨k + 1, by omega, by go_num, HP, hb5⟩
            case measure => simp [intOf]; omega
      · have e : k = n := by omega
        subst e
        have HV := Lib.hid (ju_yes HAS.out (by rw [hl.out]; exact ha.out) (by rw [hl.out]; omega))
        go_wp2_with fail
        go_ret
        exact ⟨ret_b HV.out.symm, hb⟩
end Go.Proofs.Ythkigilegnjglaa
