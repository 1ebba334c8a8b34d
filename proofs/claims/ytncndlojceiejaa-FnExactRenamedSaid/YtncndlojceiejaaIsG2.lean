/- Contract of IsGraph's code. No conditions but that the slices have at most 2^40 elements. -/
import Derived.Test.YtncndlojceiejaaIsG
namespace Go.Proofs.Ytncndlojceiejaa
open Go.ChangeShapes Go.WideShapes Go.ChangeAt Go.RowKit
theorem isClaim_Q {w : World} {n c : Int} (hn : -9223372036854775807 ≤ n) (hn2 : n ≤ 9223372036854775807) {b : Bool} (hb : inr c 0 (n - 1) = b) : ∀ m, Calls Try.prog 36 #[.int .i64 n, .int .i64 c] (w.drewN m) (fun e w' => e = .returned (.bool b) ∧ ∃ m', w' = (w.drewN m).drewN m') := fun m =>
  (isClaim_any hn hn2).mono fun e w' ⟨h1, h2⟩ => ⟨by rw [h1, hb], 0, h2.symm⟩
set_option maxHeartbeats 8000000 in
set_option maxRecDepth 100000 in
theorem impIsGraph_any {w : World} {A : Option Addr} {n c : Nat} {N : Int} {X : List (List Int)} (hl : Hid (X.length = n)) (hn : n ≤ 1099511627776) (hr : RdSS w w.heap.size A X) :
    Calls Try.prog 16 #[.agg #[.int .i64 N, .slice A n c]] w (Tells (gB N X) w) := by
  have hb0 : Below w.heap.size w (w.alloc (Obj.cells #[Value.int IntKind.i64 N, Value.slice A n c] 26)) := (Below.refl _ _).alloc (Nat.le_refl _) _
  have hr1 := hr.below hb0
  clear hr
  by_cases hN : inr N 0 10 = true
  case neg =>
    have hN' : inr N 0 10 = false := by simpa using hN
    have HN := Lib.hid hN'
    have HB := Lib.hid (show gB N X = false by unfold gB; rw [hN', Bool.and_false])
    clear hN hN'
    go_enter Try.func16, Try.ntmps16
    go_wp2_with (go_at_call 44; refine (inRange_any _ _ _ _).mono ?_; rintro e w1 ⟨he, rfl⟩; rw [HN.out] at he; subst he)
    go_ret
    exact ⟨ret_b HB.out.symm, hb0⟩
  have hNr : 0 ≤ N ∧ N ≤ 10 := by simpa [inr] using hN
  obtain ⟨N0, N1⟩ := hNr
  have HN := Lib.hid hN
  clear hN
  have HM := Lib.hid (show IntKind.i64.wrap (N - 1) = N - 1 from IntWalk.i64_in _ (by omega))
  go_enter Try.func16, Try.ntmps16
  go_wp2_with (go_at_call 44; refine (inRange_any _ _ _ _).mono ?_; rintro e w1 ⟨he, rfl⟩; rw [HN.out] at he; subst he)
  obtain ⟨W1, hW⟩ : ∃ u : World, u = w.alloc (Obj.cells #[Value.int IntKind.i64 N, Value.slice A n c] 26) := ⟨_, rfl⟩
  rw [← hW] at hr1 hb0 ⊢
  have hbx : Bx W1 w.heap.size 26 #[Value.int IntKind.i64 N, Value.slice A n c] := by rw [hW]; exact Bx.made _ _ _
  obtain ⟨C0, C1⟩ := hbx.two
  clear hW hbx
  go_loopw [12] (fun i wr => ∃ k m : Nat, k ≤ n ∧ i = .int .i64 k ∧ wr = W1.drewN m ∧ Hid (GPre (N - 1) X k)) (fun i _ => n - (intOf i).toNat)
  case atStart => exact ⟨0, 0, Nat.zero_le _, rfl, rfl, Lib.hid (fun i hi => absurd hi (by omega))⟩
  case round =>
    obtain ⟨k, m, hk, rfl, rfl, hpre⟩ := hrel
    by_cases hlt : k < n
    · have hkz : k < X.length := by rw [hl.out]; exact hlt
      obtain ⟨ad, Aj, cj, rfl, hab, hc, _, _, hrd⟩ := hr1.at_ hkz
      by_cases h2 : X[k].length = 2
      · obtain ⟨p, q, hx⟩ : ∃ p q, X[k] = [p, q] := by
          match hx : X[k], h2 with
          | [p, q], _ => exact ⟨p, q, rfl⟩
        have hxD := Lib.hid (show X.getD k [] = [p, q] by rw [getD_at hkz, hx])
        rw [hx] at hc hrd
        have HRD := Lib.hid hrd
        obtain ⟨ag, ao, rfl, ha2, e0, e1⟩ := rd2 hrd
        clear h2 hx hrd
        rw [show ([p, q] : List Int).length = 2 from rfl] at hc
        have i0 : 0 ≤ (k : Int) := by omega
        by_cases i1 : inr p 0 (N - 1) = true
        · have J1 := Lib.hid (isClaim_Q (w := W1) (n := N) (c := p) (by omega) (by omega) i1)
          by_cases i2 : inr q 0 (N - 1) = true
          · have J2 := Lib.hid (isClaim_Q (w := W1) (n := N) (c := q) (by omega) (by omega) i2)
            have I1 := Lib.hid i1
            have I2 := Lib.hid i2
            clear i1 i2
            go_wp2
            go_quiet ((first | (go_at_call_of 36 (Value.int IntKind.i64 p); with_reducible exact quiet_addQ J1.out) | (go_at_call_of 36 (Value.int IntKind.i64 q); with_reducible exact quiet_addQ J2.out)))
            by_cases hk0 : k = 0
            · subst hk0
              have HP := Lib.hid (hpre.out.succ (by unfold okI okA; rw [hxD.out]; simp [I1.out, I2.out]))
              go_wp2
              go_roundw
              case rel => exact ⟨1, _, by omega, by go_num, rfl, HP.out⟩
              case measure => simp [intOf]; omega
            · have hkp : 0 < k := by omega
              have hk1 : k - 1 < X.length := by omega
              obtain ⟨p', q', hx'⟩ := okI_two (hpre.out (k - 1) (by omega)) hk1
              obtain ⟨ad', Aj', cj', had, hab', hc', _, _, hrd'⟩ := hr1.at_ hk1
              injection had with had
              subst had
              have hxD' := Lib.hid (show X.getD (k - 1) [] = [p', q'] by rw [getD_at hk1, hx'])
              rw [hx'] at hc' hrd'
              rw [show ([p', q'] : List Int).length = 2 from rfl] at hc'
              have hlp := cmp_lt p' q' p q
              obtain ⟨z, hz⟩ : ∃ z, z = cmpL [p', q'] [p, q] := ⟨_, rfl⟩
              rw [← hz] at hlp
              have HZ := Lib.hid hz
              have R1 := Lib.hid (hrd'.more (Nat.le_of_lt_succ (Nat.lt_succ_of_le hb0.size)))
              have R2 := Lib.hid (HRD.out.more hb0.size)
              clear hz hx' hrd' hab'
              by_cases g1 : ltP [p', q'] [p, q] = true
              · rw [g1] at hlp
                have hz0 : ¬ 0 ≤ z := by simpa using hlp
                have HP := Lib.hid (hpre.out.succ (by unfold okI okA; rw [hxD.out, hxD'.out]; simp [I1.out, I2.out, g1]))
                clear hlp g1
                go_wp2_with (go_at_call 45; refine (compare_any (xs := [p', q']) (ys := [p, q]) (n := 2) (Lib.hid rfl) (Lib.hid rfl) (by omega) (by exact R1.out) (by exact R2.out)).mono ?_; rintro e w1 ⟨he, rfl⟩; rw [← HZ.out] at he; subst he)
                go_roundw
                case rel => exact ⟨k + 1, _, by omega, by go_num, rfl, HP.out⟩
                case measure => simp [intOf]; omega
              · have g1' : ltP [p', q'] [p, q] = false := by simpa using g1
                rw [g1'] at hlp
                have hz0 : 0 ≤ z := by simpa using hlp
                have HB := Lib.hid (gB_bad (N := N) hkz (by rw [HM.out]; unfold okI; rw [hxD.out, hxD'.out]; simp [g1', show ¬ k = 0 by omega]))
                clear hlp g1 g1'
                go_wp2_with (go_at_call 45; refine (compare_any (xs := [p', q']) (ys := [p, q]) (n := 2) (Lib.hid rfl) (Lib.hid rfl) (by omega) (by exact R1.out) (by exact R2.out)).mono ?_; rintro e w1 ⟨he, rfl⟩; rw [← HZ.out] at he; subst he)
                go_ret
                first | exact ⟨ret_b HB.out.symm, below_drewN (below_drewN hb0 _) _⟩ | exact ⟨ret_b HB.out.symm, below_drewN hb0 _⟩
          · have i2' : inr q 0 (N - 1) = false := by simpa using i2
            have J2 := Lib.hid (isClaim_Q (w := W1) (n := N) (c := q) (by omega) (by omega) i2')
            have HB := Lib.hid (gB_bad (N := N) hkz (by rw [HM.out]; unfold okI okA; rw [hxD.out]; simp [i2']))
            clear i1 i2 i2'
            go_wp2
            go_quiet ((first | (go_at_call_of 36 (Value.int IntKind.i64 p); with_reducible exact quiet_addQ J1.out) | (go_at_call_of 36 (Value.int IntKind.i64 q); with_reducible exact quiet_addQ J2.out)))
            go_wp2
            go_ret
            first | exact ⟨ret_b HB.out.symm, below_drewN (below_drewN hb0 _) _⟩ | exact ⟨ret_b HB.out.symm, below_drewN hb0 _⟩
        · have i1' : inr p 0 (N - 1) = false := by simpa using i1
          have J1 := Lib.hid (isClaim_Q (w := W1) (n := N) (c := p) (by omega) (by omega) i1')
          have HB := Lib.hid (gB_bad (N := N) hkz (by rw [HM.out]; unfold okI okA; rw [hxD.out]; simp [i1']))
          clear i1 i1'
          go_wp2
          go_quiet ((go_at_call 36; with_reducible exact quiet_addQ J1.out))
          go_wp2
          go_ret
          first | exact ⟨ret_b HB.out.symm, below_drewN (below_drewN hb0 _) _⟩ | exact ⟨ret_b HB.out.symm, below_drewN hb0 _⟩
      · have HB := Lib.hid (gB_bad (N := N) hkz (by rw [HM.out]; unfold okI okA; rw [getD_at hkz]; simp [h2]))
        have h2' : ¬ ((X[k].length : Int) = 2) := by omega
        obtain ⟨x, hx⟩ : ∃ x, x = X[k] := ⟨_, rfl⟩
        rw [← hx] at hc h2 h2'
        have h2b : ((x.length : Int) == 2) = false := by simpa using h2'
        have h2c : ((x.length : Int) != 2) = true := by simpa using h2'
        have h2d : (x.length == 2) = false := by simpa using h2
        have h2e : (x.length != 2) = true := by simpa using h2
        clear hx hrd
        go_wp2
        go_quiet (fail)
        go_wp2
        go_ret
        first | exact ⟨ret_b HB.out.symm, below_drewN (below_drewN hb0 _) _⟩ | exact ⟨ret_b HB.out.symm, below_drewN hb0 _⟩
    · have e : k = n := by omega
      subst e
      have HE := Lib.hid (gB_end (N := N) (X := X) (by rw [hl.out, HM.out]; exact hpre.out))
      go_wp2
      go_ret
      exact ⟨ret_b (by rw [HE.out, HN.out]), below_drewN hb0 m⟩
end Go.Proofs.Ytncndlojceiejaa
