/- Contract of the code's IsRound. Condition: integers of 64 bits; the slices have at most 2^20 elements. -/
import Derived.Test.YthkigilegnjglaaIrMath
import Derived.Test.YthkigilegnjglaaMg11
namespace Go.Proofs.Ythkigilegnjglaa
open Go.ChangeShapes Go.WideShapes Go.ChangeAt Go.RowKit
set_option maxRecDepth 100000
set_option maxHeartbeats 8000000 in
theorem impIsRound_any {w : World} {A A' : Option Addr} {n c m c' : Nat} {X : List Tm} {R : List T2} (hl : Hid (X.length = n)) (hn : n ≤ 1048576) (hs : Hid (∀ x ∈ X, x.met.length ≤ 1048576)) (hr : RdT w w.heap.size A X) (hl' : Hid (R.length = m)) (hm : m ≤ 1048576) (hr' : Rd w w.heap.size A' (t2s R)) (hok : Hid (∀ x ∈ X, x.ok)) (hok' : Hid (∀ p ∈ R, I6 p.1 ∧ I6 p.2)) :
    Calls Try.prog 49 #[.slice A n c, .slice A' m c'] w (Tells (irB X R) w) := by
  go_enter Try.func49, Try.ntmps49
  go_wp2_with fail
  refine (teamPlacesOf_any hl (by omega) (Lib.hid fun x hx => (hok.out x hx).1) hr).mono ?_
  rintro e W1 ⟨K, rfl, hm1, b1⟩
  rw [← unF_nil] at hm1
  have HM1 := Lib.hid hm1
  clear hm1
  go_wp2_with fail
  go_loopw [12] (fun i wr => ∃ (k : Nat) (K : List Int), k ≤ m ∧ i = .int .i64 k ∧ Hid ((List.range k).all (irAt X R) = true) ∧ Hid (IM (unF X (R.take k)) K w.heap.size n wr) ∧ Below w.heap.size w wr) (fun i _ => m - (intOf i).toNat)
  case atStart => exact ⟨0, K, Nat.zero_le _, rfl, Lib.hid rfl, HM1, b1⟩
  case round =>
    obtain ⟨k, K, hk, rfl, ha, hm3, hb⟩ := hrel
    by_cases hlt : k < m
    · have hkz : k < R.length := by rw [hl'.out]; exact hlt
      have hsz := hb.size
      obtain ⟨ad, p, rfl, hp, hab, h0, h1⟩ := t2_cells ((hr'.below hb).more hsz) hkz
      have i0 : (0 : Int) ≤ (k : Int) := by omega
      have i1 : (k : Int) < (m : Int) := by omega
      have HAT := Lib.hid (ir_at (X := X) hkz)
      have HST := Lib.hid (unF_step (X := X) hkz)
      have HNO := Lib.hid (fun h => ir_no (X := X) hkz h)
      have HO := Lib.hid (hok'.out _ (List.getElem_mem hkz))
      obtain ⟨z, hz⟩ : ∃ z, z = R[k] := ⟨_, rfl⟩
      rw [← hz] at h0 h1 HAT HST HO
      obtain ⟨W2, hW2, x2, b2, z2⟩ := box2T wr 38 (.int .i64 z.1) (.int .i64 z.2)
      have HW2 := Lib.hid hW2
      have hm4 := Lib.hid (hm3.out.new b2)
      have hb2 := hb.trans (b2.mono hsz)
      obtain ⟨c0, c1⟩ := x2.c2 (Below.refl _ _)
      have X2 := Lib.hid x2
      have hlw : w.heap.size < wr.heap.size := hm3.out.lt
      clear hz hW2 z2 x2
      cases hA : (unF X (R.take k) z.1).isSome with
      | false =>
        have HA := Lib.hid hA
        have HV := Lib.hid (HNO.out (ir_1 HAT.out hA))
        clear hA
        go_wp2_with fail
        rw [HW2.out]
        try (go_wp2_with fail)
        refine (plHas_any hm4.out HO.out.1).mono ?_
        rintro e u ⟨rfl, rfl⟩
        rw [HA.out]
        go_wp2_with fail
        go_ret
        exact ⟨ret_b HV.out.symm, hb2⟩
      | true =>
        have HA := Lib.hid hA
        cases hB : (unF X (R.take k) z.2).isSome with
        | false =>
          have HB := Lib.hid hB
          have HV := Lib.hid (HNO.out (ir_2 HAT.out hB))
          clear hA hB
          go_wp2_with fail
          rw [HW2.out]
          try (go_wp2_with fail)
          refine (plHas_any hm4.out HO.out.1).mono ?_
          rintro e u ⟨rfl, rfl⟩
          rw [HA.out]
          go_wp2_with fail
          refine (plHas_any hm4.out HO.out.2).mono ?_
          rintro e u ⟨rfl, rfl⟩
          rw [HB.out]
          go_wp2_with fail
          go_ret
          exact ⟨ret_b HV.out.symm, hb2⟩
        | true =>
          have HB := Lib.hid hB
          have HIR := Lib.hid (show irAt X R k = mmB X z.1 z.2 by rw [HAT.out, unF_some hA, unF_some hB]; simp)
          clear hA hB
          go_wp2_with fail
          rw [HW2.out]
          try (go_wp2_with fail)
          refine (plHas_any hm4.out HO.out.1).mono ?_
          rintro e u ⟨rfl, rfl⟩
          rw [HA.out]
          go_wp2_with fail
          refine (plHas_any hm4.out HO.out.2).mono ?_
          rintro e u ⟨rfl, rfl⟩
          rw [HB.out]
          go_wp2_with fail
          refine (impMayMeet_any hl hn hs hok (Lib.hid HO.out.1) (Lib.hid HO.out.2) ((hr.below hb2).more hb2.size)).mono ?_
          rintro e W5 ⟨rfl, b5⟩
          have hb5 := hb2.trans (b5.mono hb2.size)
          cases hM : mmB X z.1 z.2 with
          | false =>
            have HV := Lib.hid (HNO.out (HIR.out.trans hM))
            clear hM
            go_wp2_with fail
            go_ret
            exact ⟨ret_b HV.out.symm, hb5⟩
          | true =>
            have HP := Lib.hid (ir_snoc ha.out (HIR.out.trans hM))
            have x5 := X2.out.new b5
            obtain ⟨d0, d1⟩ := x5.c2 (Below.refl _ _)
            obtain ⟨W6, hd6, hm6, o6⟩ := (hm4.out.new b5).del (t := 94) tp_under HO.out.1 0
            have x6 := x5.out o6 (.inr (by omega))
            obtain ⟨f0, f1⟩ := x6.c2 (Below.refl _ _)
            obtain ⟨W7, hd7, hm7, o7⟩ := hm6.del (t := 94) tp_under HO.out.2 0
            rw [HST.out] at hm7
            have HM7 := Lib.hid hm7
            have hb6 := hb5.trans (o6.below (Nat.le_refl _) hb5.size)
            have hb7 := hb6.trans (o7.below (Nat.le_refl _) hb6.size)
            clear hM hm6 hm7 o6 o7 x5 x6
            go_wp2_with fail
            go_roundw
            case rel => exact ⟨k + 1, _, by omega, by go_num, HP, HM7, hb7⟩
            case measure => simp [intOf]; omega
    · have e : k = m := by omega
      subst e
      have hm9 := hm3.out
      rw [List.take_of_length_le (by rw [hl'.out]; exact Nat.le_refl _)] at hm9
      have hz := hm9.size (t := 94) tp_under 3
      obtain ⟨D, _, _, _, _, _, _, hK⟩ := hm9
      have HQ := Lib.hid (ir_end (X := X) (R := R) (K := K) (by rw [hl'.out]; exact ha.out) hK)
      clear hK
      go_wp2_with fail
      go_ret
      exact ⟨ret_b (by rw [← HQ.out, Bool.eq_iff_iff, beq_iff_eq, decide_eq_true_iff]; omega), hb⟩
end Go.Proofs.Ythkigilegnjglaa
