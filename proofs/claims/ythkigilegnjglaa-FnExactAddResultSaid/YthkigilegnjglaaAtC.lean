/- Contract of the code's AreTeams. Condition: integers of 64 bits; the slice has at most 2^20 elements, each team's at most 2^20. -/
import Derived.Test.YthkigilegnjglaaArMut
import Derived.Test.YthkigilegnjglaaHascT
namespace Go.Proofs.Ythkigilegnjglaa
open Go.ChangeShapes Go.WideShapes Go.ChangeAt Go.RowKit
set_option maxRecDepth 100000
set_option maxHeartbeats 4000000 in
theorem impAreTeams_any {w : World} {A : Option Addr} {n c : Nat} {X : List Tm} (hl : Hid (X.length = n)) (hn : n ≤ 1048576) (hs : Hid (∀ x ∈ X, x.met.length ≤ 1048576)) (hok : Hid (∀ x ∈ X, x.ok)) (hr : RdT w w.heap.size A X) :
    Calls Try.prog 23 #[.slice A n c] w (Tells (atB X) w) := by
  by_cases hbig : 10 < n
  · have HV := Lib.hid (te_big (X := X) (by rw [hl.out]; exact hbig))
    have i1 : (10 : Int) < (n : Int) := by omega
    go_enter Try.func23, Try.ntmps23
    go_wp2_with fail
    go_ret
    exact ⟨ret_b HV.out.symm, Below.refl _ _⟩
  have i9 : ¬ (10 : Int) < (n : Int) := by omega
  cases hasc : ascB (X.map Tm.id) with
  | false =>
    have HV := Lib.hid (te_noasc hasc)
    have HA := Lib.hid hasc
    clear hasc
    go_enter Try.func23, Try.ntmps23
    go_wp2_with fail
    refine (team_asc hl (by omega) hr).mono ?_
    rintro e w1 ⟨rfl, hb⟩
    rw [HA.out]
    go_wp2_with fail
    go_ret
    exact ⟨ret_b HV.out.symm, hb⟩
  | true =>
    have HA := Lib.hid hasc
    clear hasc
    go_enter Try.func23, Try.ntmps23
    go_wp2_with fail
    refine (team_asc hl (by omega) hr).mono ?_
    rintro e w1 ⟨rfl, hb1⟩
    rw [HA.out]
    go_wp2_with fail
    go_loopw [15] (fun i wr => ∃ k : Nat, k ≤ n ∧ i = .int .i64 k ∧ Hid ((X.take k).all tmF = true) ∧ Below w.heap.size w wr) (fun i _ => n - (intOf i).toNat)
    case atStart => exact ⟨0, Nat.zero_le _, rfl, Lib.hid rfl, hb1⟩
    case round =>
      obtain ⟨k, hk, rfl, ha, hb⟩ := hrel
      have hsz := hb.size
      by_cases hlt : k < n
      · have hkz : k < X.length := by rw [hl.out]; exact hlt
        obtain ⟨ad, p, rfl, hp, hab, Aj, cj, h0, h1, h2, h3, h4, h5, _, _, hrj⟩ := ((hr.below hb).more hsz).at_ hkz
        have i0 : (0 : Int) ≤ (k : Int) := by omega
        have i1 : (k : Int) < (n : Int) := by omega
        have hsn := hs.out _ (List.getElem_mem hkz)
        have HS := Lib.hid (fun h => te_allsnoc ha.out hkz h)
        have HN := Lib.hid (fun h => te_noteam hkz h)
        obtain ⟨x, hxe⟩ : ∃ x, x = X[k] := ⟨_, rfl⟩
        rw [← hxe] at h0 h1 h2 h3 h4 h5 hrj hsn HS HN
        have b2 := alloc_m wr (Obj.cells #[Value.int .i64 x.id, .int .i64 x.club, .int .i64 x.wins, .int .i64 x.pts, .int .i64 x.firsts, .slice Aj x.met.length cj] 82)
        have bx := Bx.made wr 82 #[Value.int .i64 x.id, .int .i64 x.club, .int .i64 x.wins, .int .i64 x.pts, .int .i64 x.firsts, .slice Aj x.met.length cj]
        obtain ⟨W1, hW⟩ : ∃ W1, wr.alloc (Obj.cells #[Value.int .i64 x.id, .int .i64 x.club, .int .i64 x.wins, .int .i64 x.pts, .int .i64 x.firsts, .slice Aj x.met.length cj] 82) = W1 := ⟨_, rfl⟩
        rw [hW] at bx b2
        have HW := Lib.hid hW
        have c0 := bx.at_ (k := 0) (v := .int .i64 x.id) rfl
        have c1 := bx.at_ (k := 1) (v := .int .i64 x.club) rfl
        have c2 := bx.at_ (k := 2) (v := .int .i64 x.wins) rfl
        have c3 := bx.at_ (k := 3) (v := .int .i64 x.pts) rfl
        have c4 := bx.at_ (k := 4) (v := .int .i64 x.firsts) rfl
        have c5 := bx.at_ (k := 5) (v := .slice Aj x.met.length cj) rfl
        have hb2 := hb.trans (b2.mono hsz)
        have hrx := (hrj.below b2).more b2.size
        clear hxe hW bx hrj
        cases hx : tmF x with
        | false =>
          have HV := Lib.hid (HN.out hx)
          have HX := Lib.hid hx
          clear hx
          go_wp2_with fail
          rw [HW.out]
          try (go_wp2_with fail)
          refine (isTeam_any hsn hrx).mono ?_
          rintro e u ⟨rfl, hbu⟩
          rw [HX.out]
          go_wp2_with fail
          go_ret
          exact ⟨ret_b HV.out.symm, hb2.trans (hbu.mono hb2.size)⟩
        | true =>
          have HP := Lib.hid (HS.out hx)
          have HX := Lib.hid hx
          clear hx
          go_wp2_with fail
          rw [HW.out]
          try (go_wp2_with fail)
          refine (isTeam_any hsn hrx).mono ?_
          rintro e u ⟨rfl, hbu⟩
          rw [HX.out]
          have hb5 := hb2.trans (hbu.mono hb2.size)
          go_wp2_with fail
          go_roundw
          case rel => exact ⟨k + 1, by omega, by go_num, HP, hb5⟩
          case measure => simp [intOf]; omega
      · have e : k = n := by omega
        subst e
        have HY := Lib.hid (fun (b : Bool) hb => te_yes (X := X) (b := b) HA.out (by rw [hl.out]; exact ha.out) (by rw [hl.out]; omega) hb)
        have HSF := Lib.hid (te_self (X := X) (by rw [hl.out]; exact ha.out))
        go_wp2_with fail
        refine (areMutual_any hl hn hs hok HSF ((hr.below hb).more hsz)).mono ?_
        rintro e u ⟨b, rfl, hbq, hbu⟩
        have HV := Lib.hid (HY.out b hbq)
        clear hbq
        go_wp2_with fail
        go_ret
        exact ⟨ret_b HV.out, hb.trans (hbu.mono hsz)⟩
end Go.Proofs.Ythkigilegnjglaa
