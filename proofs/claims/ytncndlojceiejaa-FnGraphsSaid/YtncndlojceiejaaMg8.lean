/- Contracts of slices.Compare on slices of integers of one length, and of IsGraph's code. No conditions but that the slices have at most 2^40 elements. -/
import Derived.Test.YtncndlojceiejaaMg4
import Derived.Test.YtncndlojceiejaaMg5
namespace Go.Proofs.Ytncndlojceiejaa
open Go.ChangeShapes Go.WideShapes Go.ChangeAt Go.RowKit
def cmp1 (a b : Int) : Int := if a < b then -1 else if b < a then 1 else 0
theorem cmpNaN_any (a : Int) (w : World) : Calls Try.prog 74 #[.int .i64 a] w (fun e w' => e = .returned (.bool false) ∧ w = w') := by
  go_enter Try.func74, Try.ntmps74
  go_wp2
  go_ret
  exact ⟨ret_b (by simp), rfl⟩
theorem cmpInt_any (a b : Int) (w : World) : Calls Try.prog 66 #[.int .i64 a, .int .i64 b] w (fun e w' => e = .returned (.int .i64 (cmp1 a b)) ∧ w = w') := by
  by_cases h1 : a < b
  · have H := Lib.hid (show cmp1 a b = -1 by unfold cmp1; rw [if_pos h1])
    go_enter Try.func66, Try.ntmps66
    go_wp2_with (go_at_call 74; refine (cmpNaN_any _ _).mono ?_; rintro e w1 ⟨rfl, rfl⟩)
    go_ret
    exact ⟨by rw [H.out]; rfl, rfl⟩
  · by_cases h2 : b < a
    · have H := Lib.hid (show cmp1 a b = 1 by unfold cmp1; rw [if_neg h1, if_pos h2])
      go_enter Try.func66, Try.ntmps66
      go_wp2_with (go_at_call 74; refine (cmpNaN_any _ _).mono ?_; rintro e w1 ⟨rfl, rfl⟩)
      go_ret
      exact ⟨by rw [H.out]; rfl, rfl⟩
    · have H := Lib.hid (show cmp1 a b = 0 by unfold cmp1; rw [if_neg h1, if_neg h2])
      go_enter Try.func66, Try.ntmps66
      go_wp2_with (go_at_call 74; refine (cmpNaN_any _ _).mono ?_; rintro e w1 ⟨rfl, rfl⟩)
      go_ret
      exact ⟨by rw [H.out]; rfl, rfl⟩
def cmpL : List Int → List Int → Int
  | x :: xs, y :: ys => if cmp1 x y = 0 then cmpL xs ys else cmp1 x y
  | _, _ => 0
theorem cmpL_drop {xs ys : List Int} {k : Nat} (hx : k < xs.length) (hy : k < ys.length) : cmpL (xs.drop k) (ys.drop k) = if cmp1 xs[k] ys[k] = 0 then cmpL (xs.drop (k + 1)) (ys.drop (k + 1)) else cmp1 xs[k] ys[k] := by
  rw [List.drop_eq_getElem_cons hx, List.drop_eq_getElem_cons hy]; rfl
set_option maxRecDepth 100000 in
set_option maxHeartbeats 1600000 in
theorem compare_any {w : World} {A A' : Option Addr} {n c c' : Nat} {xs ys : List Int} (hx : Hid (xs.length = n)) (hy : Hid (ys.length = n)) (hn : n ≤ 1099511627776) (hr : Rd w w.heap.size A (ivs xs)) (hr' : Rd w w.heap.size A' (ivs ys)) :
    Calls Try.prog 45 #[.slice A n c, .slice A' n c'] w (fun e w' => e = .returned (.int .i64 (cmpL xs ys)) ∧ w = w') := by
  go_enter Try.func45, Try.ntmps45
  go_wp2
  go_loop [11] (fun i => ∃ k : Nat, k ≤ n ∧ i = .int .i64 k ∧ Hid (cmpL xs ys = cmpL (xs.drop k) (ys.drop k))) (fun i => n - (intOf i).toNat)
  case atStart => exact ⟨0, Nat.zero_le _, rfl, rfl⟩
  case round =>
    obtain ⟨k, hk, rfl, heq⟩ := hrel
    by_cases hlt : k < n
    · have hkx : k < xs.length := by rw [hx.out]; exact hlt
      have hky : k < ys.length := by rw [hy.out]; exact hlt
      obtain ⟨ad, rfl, hab, hc⟩ := ivs_at hr hkx
      obtain ⟨ad', rfl, hab', hc'⟩ := ivs_at hr' hky
      have hd := cmpL_drop hkx hky
      obtain ⟨x, hxx⟩ : ∃ x, x = xs[k] := ⟨_, rfl⟩
      obtain ⟨y, hyy⟩ : ∃ y, y = ys[k] := ⟨_, rfl⟩
      rw [← hxx] at hc hd
      rw [← hyy] at hc' hd
      clear hxx hyy
      by_cases hz : cmp1 x y = 0
      · rw [if_pos hz] at hd
        have HD := Lib.hid (heq.out.trans hd)
        have HZ := Lib.hid hz
        clear hd hz
        go_wp2_with (go_at_call 66; refine (cmpInt_any _ _ _).mono ?_; rintro e w1 ⟨he, rfl⟩; rw [HZ.out] at he; subst he)
        go_round
        case rel => exact ⟨k + 1, by omega, by go_num, HD.out⟩
        case measure => simp [intOf]; omega
      · rw [if_neg hz] at hd
        have HD := Lib.hid (heq.out.trans hd)
        obtain ⟨z, hzz⟩ : ∃ z, z = cmp1 x y := ⟨_, rfl⟩
        rw [← hzz] at hz
        have HZ := Lib.hid hzz
        clear hd hzz
        go_wp2_with (go_at_call 66; refine (cmpInt_any _ _ _).mono ?_; rintro e w1 ⟨he, rfl⟩; rw [← HZ.out] at he; subst he)
        go_ret
        exact ⟨ret_i (by rw [HD.out, HZ.out]), rfl⟩
    · have e : k = n := by omega
      subst e
      have HE := Lib.hid (show cmpL xs ys = 0 by rw [heq.out, List.drop_of_length_le (by rw [hx.out]; omega)]; rfl)
      go_wp2
      go_ret
      exact ⟨ret_i (by rw [HE.out]), rfl⟩
theorem cmp_lt (p' q' p q : Int) : decide (0 ≤ cmpL [p', q'] [p, q]) = !(ltP [p', q'] [p, q]) := by
  simp only [cmpL, cmp1, ltP, List.getD_cons_zero, List.getD_cons_succ, Bool.not_not]
  by_cases h1 : p' < p
  · have h2 : ¬ p < p' := by omega
    have h3 : ¬ p' = p := by omega
    simp [h1, h2, h3]
  · by_cases h2 : p < p'
    · simp [h1, h2]
    · have h3 : p' = p := by omega
      subst h3
      by_cases h4 : q' < q
      · have h5 : ¬ q ≤ q' := by omega
        simp [h4, h5]
      · by_cases h5 : q < q'
        · have h6 : q ≤ q' := by omega
          simp [h4, h5, h6]
        · have h6 : q ≤ q' := by omega
          simp [h4, h5, h6]
end Go.Proofs.Ytncndlojceiejaa

/- Contract of IsGraph's code. No conditions but that the slices have at most 2^40 elements. -/
namespace Go.Proofs.Ytncndlojceiejaa
open Go.ChangeShapes Go.WideShapes Go.ChangeAt Go.RowKit
theorem isClaim_Q {w : World} {n c : Int} (hn : -9223372036854775807 ≤ n) (hn2 : n ≤ 9223372036854775807) {b : Bool} (hb : inr c 0 (n - 1) = b) : ∀ m, Calls Try.prog 36 #[.int .i64 n, .int .i64 c] (w.drewN m) (fun e w' => e = .returned (.bool b) ∧ ∃ m', w' = (w.drewN m).drewN m') := fun m =>
  (isClaim_any hn hn2).mono fun e w' ⟨h1, h2⟩ => ⟨by rw [h1, hb], 0, h2.symm⟩
set_option maxHeartbeats 8000000 in
set_option maxRecDepth 100000 in
theorem impIsGraph_any {w : World} {A : Option Addr} {n c : Nat} {N : Int} {X : List (List Int)} (hl : Hid (X.length = n)) (hn : n ≤ 1099511627776) (hr : RdSS w w.heap.size A X) :
    Calls Try.prog 16 #[.agg #[.int .i64 N, .slice A n c]] w (Tells (gB N X) w) := by
  have hb0 : Below w.heap.size w (w.alloc (Obj.cells #[Value.int IntKind.i64 N, Value.slice A n c] 26)) := (Below.refl _ _).alloc (Nat.le_refl _) _
  have hr1 := hr.below hb0
  clear hr
  by_cases hN : inr N 0 10 = true
  case neg =>
    have hN' : inr N 0 10 = false := by simpa using hN
    have HN := Lib.hid hN'
    have HB := Lib.hid (show gB N X = false by unfold gB; rw [hN', Bool.and_false])
    clear hN hN'
    go_enter Try.func16, Try.ntmps16
    go_wp2_with (go_at_call 44; refine (inRange_any _ _ _ _).mono ?_; rintro e w1 ⟨he, rfl⟩; rw [HN.out] at he; subst he)
    go_ret
    exact ⟨ret_b HB.out.symm, hb0⟩
  have hNr : 0 ≤ N ∧ N ≤ 10 := by simpa [inr] using hN
  obtain ⟨N0, N1⟩ := hNr
  have HN := Lib.hid hN
  clear hN
  have HM := Lib.hid (show IntKind.i64.wrap (N - 1) = N - 1 from IntWalk.i64_in _ (by omega))
  go_enter Try.func16, Try.ntmps16
  go_wp2_with (go_at_call 44; refine (inRange_any _ _ _ _).mono ?_; rintro e w1 ⟨he, rfl⟩; rw [HN.out] at he; subst he)
  obtain ⟨W1, hW⟩ : ∃ u : World, u = w.alloc (Obj.cells #[Value.int IntKind.i64 N, Value.slice A n c] 26) := ⟨_, rfl⟩
  rw [← hW] at hr1 hb0 ⊢
  have hbx : Bx W1 w.heap.size 26 #[Value.int IntKind.i64 N, Value.slice A n c] := by rw [hW]; exact Bx.made _ _ _
  obtain ⟨C0, C1⟩ := hbx.two
  clear hW hbx
  go_loopw [12] (fun i wr => ∃ k m : Nat, k ≤ n ∧ i = .int .i64 k ∧ wr = W1.drewN m ∧ Hid (GPre (N - 1) X k)) (fun i _ => n - (intOf i).toNat)
  case atStart => exact ⟨0, 0, Nat.zero_le _, rfl, rfl, Lib.hid (fun i hi => absurd hi (by omega))⟩
  case round =>
    obtain ⟨k, m, hk, rfl, rfl, hpre⟩ := hrel
    by_cases hlt : k < n
    · have hkz : k < X.length := by rw [hl.out]; exact hlt
      obtain ⟨ad, Aj, cj, rfl, hab, hc, _, _, hrd⟩ := hr1.at_ hkz
      by_cases h2 : X[k].length = 2
      · obtain ⟨p, q, hx⟩ : ∃ p q, X[k] = [p, q] := by
          match hx : X[k], h2 with
          | [p, q], _ => exact ⟨p, q, rfl⟩
        have hxD := Lib.hid (show X.getD k [] = [p, q] by rw [getD_at hkz, hx])
        rw [hx] at hc hrd
        have HRD := Lib.hid hrd
        obtain ⟨ag, ao, rfl, ha2, e0, e1⟩ := rd2 hrd
        clear h2 hx hrd
        rw [show ([p, q] : List Int).length = 2 from rfl] at hc
        have i0 : 0 ≤ (k : Int) := by omega
        by_cases i1 : inr p 0 (N - 1) = true
        · have J1 := Lib.hid (isClaim_Q (w := W1) (n := N) (c := p) (by omega) (by omega) i1)
          by_cases i2 : inr q 0 (N - 1) = true
          · have J2 := Lib.hid (isClaim_Q (w := W1) (n := N) (c := q) (by omega) (by omega) i2)
            have I1 := Lib.hid i1
            have I2 := Lib.hid i2
            clear i1 i2
            go_wp2
            go_quiet ((first | (go_at_call_of 36 (Value.int IntKind.i64 p); with_reducible exact quiet_addQ J1.out) | (go_at_call_of 36 (Value.int IntKind.i64 q); with_reducible exact quiet_addQ J2.out)))
            by_cases hk0 : k = 0
            · subst hk0
              have HP := Lib.hid (hpre.out.succ (by unfold okI okA; rw [hxD.out]; simp [I1.out, I2.out]))
              go_wp2
              go_roundw
              case rel => exact ⟨1, _, by omega, by go_num, rfl, HP.out⟩
              case measure => simp [intOf]; omega
            · have hkp : 0 < k := by omega
              have hk1 : k - 1 < X.length := by omega
              obtain ⟨p', q', hx'⟩ := okI_two (hpre.out (k - 1) (by omega)) hk1
              obtain ⟨ad', Aj', cj', had, hab', hc', _, _, hrd'⟩ := hr1.at_ hk1
              injection had with had
              subst had
              have hxD' := Lib.hid (show X.getD (k - 1) [] = [p', q'] by rw [getD_at hk1, hx'])
              rw [hx'] at hc' hrd'
              rw [show ([p', q'] : List Int).length = 2 from rfl] at hc'
              have hlp := cmp_lt p' q' p q
              obtain ⟨z, hz⟩ : ∃ z, z = cmpL [p', q'] [p, q] := ⟨_, rfl⟩
              rw [← hz] at hlp
              have HZ := Lib.hid hz
              have R1 := Lib.hid (hrd'.more (Nat.le_of_lt_succ (Nat.lt_succ_of_le hb0.size)))
              have R2 := Lib.hid (HRD.out.more hb0.size)
              clear hz hx' hrd' hab'
              by_cases g1 : ltP [p', q'] [p, q] = true
              · rw [g1] at hlp
                have hz0 : ¬ 0 ≤ z := by simpa using hlp
                have HP := Lib.hid (hpre.out.succ (by unfold okI okA; rw [hxD.out, hxD'.out]; simp [I1.out, I2.out, g1]))
                clear hlp g1
                go_wp2_with (go_at_call 45; refine (compare_any (xs := [p', q']) (ys := [p, q]) (n := 2) (Lib.hid rfl) (Lib.hid rfl) (by omega) (by exact R1.out) (by exact R2.out)).mono ?_; rintro e w1 ⟨he, rfl⟩; rw [← HZ.out] at he; subst he)
                go_roundw
                case rel => exact ⟨k + 1, _, by omega, by go_num, rfl, HP.out⟩
                case measure => simp [intOf]; omega
              · have g1' : ltP [p', q'] [p, q] = false := by simpa using g1
                rw [g1'] at hlp
                have hz0 : 0 ≤ z := by simpa using hlp
                have HB := Lib.hid (gB_bad (N := N) hkz (by rw [HM.out]; unfold okI; rw [hxD.out, hxD'.out]; simp [g1', show ¬ k = 0 by omega]))
                clear hlp g1 g1'
                go_wp2_with (go_at_call 45; refine (compare_any (xs := [p', q']) (ys := [p, q]) (n := 2) (Lib.hid rfl) (Lib.hid rfl) (by omega) (by exact R1.out) (by exact R2.out)).mono ?_; rintro e w1 ⟨he, rfl⟩; rw [← HZ.out] at he; subst he)
                go_ret
                first | exact ⟨ret_b HB.out.symm, below_drewN (below_drewN hb0 _) _⟩ | exact ⟨ret_b HB.out.symm, below_drewN hb0 _⟩
          · have i2' : inr q 0 (N - 1) = false := by simpa using i2
            have J2 := Lib.hid (isClaim_Q (w := W1) (n := N) (c := q) (by omega) (by omega) i2')
            have HB := Lib.hid (gB_bad (N := N) hkz (by rw [HM.out]; unfold okI okA; rw [hxD.out]; simp [i2']))
            clear i1 i2 i2'
            go_wp2
            go_quiet ((first | (go_at_call_of 36 (Value.int IntKind.i64 p); with_reducible exact quiet_addQ J1.out) | (go_at_call_of 36 (Value.int IntKind.i64 q); with_reducible exact quiet_addQ J2.out)))
            go_wp2
            go_ret
            first | exact ⟨ret_b HB.out.symm, below_drewN (below_drewN hb0 _) _⟩ | exact ⟨ret_b HB.out.symm, below_drewN hb0 _⟩
        · have i1' : inr p 0 (N - 1) = false := by simpa using i1
          have J1 := Lib.hid (isClaim_Q (w := W1) (n := N) (c := p) (by omega) (by omega) i1')
          have HB := Lib.hid (gB_bad (N := N) hkz (by rw [HM.out]; unfold okI okA; rw [hxD.out]; simp [i1']))
          clear i1 i1'
          go_wp2
          go_quiet ((go_at_call 36; with_reducible exact quiet_addQ J1.out))
          go_wp2
          go_ret
          first | exact ⟨ret_b HB.out.symm, below_drewN (below_drewN hb0 _) _⟩ | exact ⟨ret_b HB.out.symm, below_drewN hb0 _⟩
      · have HB := Lib.hid (gB_bad (N := N) hkz (by rw [HM.out]; unfold okI okA; rw [getD_at hkz]; simp [h2]))
        have h2' : ¬ ((X[k].length : Int) = 2) := by omega
        obtain ⟨x, hx⟩ : ∃ x, x = X[k] := ⟨_, rfl⟩
        rw [← hx] at hc h2 h2'
        have h2b : ((x.length : Int) == 2) = false := by simpa using h2'
        have h2c : ((x.length : Int) != 2) = true := by simpa using h2'
        have h2d : (x.length == 2) = false := by simpa using h2
        have h2e : (x.length != 2) = true := by simpa using h2
        clear hx hrd
        go_wp2
        go_quiet (fail)
        go_wp2
        go_ret
        first | exact ⟨ret_b HB.out.symm, below_drewN (below_drewN hb0 _) _⟩ | exact ⟨ret_b HB.out.symm, below_drewN hb0 _⟩
    · have e : k = n := by omega
      subst e
      have HE := Lib.hid (gB_end (N := N) (X := X) (by rw [hl.out, HM.out]; exact hpre.out))
      go_wp2
      go_ret
      exact ⟨ret_b (by rw [HE.out, HN.out]), below_drewN hb0 m⟩
end Go.Proofs.Ytncndlojceiejaa

/- Contract of the code's rowsOf. No conditions but that the slices have at most 2^40 elements. -/
namespace Go.Proofs.Ytncndlojceiejaa
open Go.ChangeShapes Go.WideShapes Go.ChangeAt Go.RowKit
theorem arC_lit (n : Int) : #[Value.int .i64 n, .int .u16 0, .int .u16 0, .int .u16 0, .int .u16 0, .int .u16 0, .int .u16 0, .int .u16 0, .int .u16 0, .int .u16 0, .int .u16 0] = arC n fun _ => 0 := rfl
theorem Bx.eleven {w : World} {g : Nat} {t : TypeId} {n : Int} {f : Nat → Nat} (h : Bx w g t (arC n f)) :
    w.cell? ⟨g, 0, none⟩ = some (.int .i64 n) ∧ w.cell? ⟨g, 1, none⟩ = some (.int .u16 (f 0 : Nat)) ∧ w.cell? ⟨g, 2, none⟩ = some (.int .u16 (f 1 : Nat)) ∧ w.cell? ⟨g, 3, none⟩ = some (.int .u16 (f 2 : Nat)) ∧ w.cell? ⟨g, 4, none⟩ = some (.int .u16 (f 3 : Nat)) ∧ w.cell? ⟨g, 5, none⟩ = some (.int .u16 (f 4 : Nat)) ∧ w.cell? ⟨g, 6, none⟩ = some (.int .u16 (f 5 : Nat)) ∧ w.cell? ⟨g, 7, none⟩ = some (.int .u16 (f 6 : Nat)) ∧ w.cell? ⟨g, 8, none⟩ = some (.int .u16 (f 7 : Nat)) ∧ w.cell? ⟨g, 9, none⟩ = some (.int .u16 (f 8 : Nat)) ∧ w.cell? ⟨g, 10, none⟩ = some (.int .u16 (f 9 : Nat)) :=
  ⟨h.at_ rfl, h.at_ rfl, h.at_ rfl, h.at_ rfl, h.at_ rfl, h.at_ rfl, h.at_ rfl, h.at_ rfl, h.at_ rfl, h.at_ rfl, h.at_ rfl⟩
theorem att_take {X : List (List Int)} {k : Nat} (hk : k < X.length) {p q : Nat} (hx : X[k] = [(p : Int), (q : Int)]) : att (X.take (k + 1)) = upd (att (X.take k)) p q := by
  rw [List.take_succ_eq_append_getElem hk, att_snoc, hx]; simp
set_option maxHeartbeats 8000000 in
set_option maxRecDepth 100000 in
theorem rowsOf_any {w : World} {A : Option Addr} {n c : Nat} {N : Int} {X : List (List Int)} (hl : Hid (X.length = n)) (hn : n ≤ 1099511627776) (hr : RdSS w w.heap.size A X) :
    Calls Try.prog 35 #[.agg #[.int .i64 N, .slice A n c]] w (fun e w' => e = .returned (.agg (arC (rn N X) (rf N X))) ∧ Below w.heap.size w w') := by
  have hb1 : Below w.heap.size w (w.alloc (Obj.cells #[Value.int IntKind.i64 N, Value.slice A n c] 26)) := (Below.refl _ _).alloc (Nat.le_refl _) _
  have bx1 := Bx.made w 26 #[Value.int IntKind.i64 N, Value.slice A n c]
  obtain ⟨Wa, hWa⟩ : ∃ u : World, u = w.alloc (Obj.cells #[Value.int IntKind.i64 N, Value.slice A n c] 26) := ⟨_, rfl⟩
  have hsa : Wa.heap.size = w.heap.size + 1 := by rw [hWa]; simp
  rw [← hWa] at hb1 bx1
  have hb2 : Below w.heap.size w (Wa.alloc (Obj.cells (arC 0 fun _ => 0) 60)) := hb1.alloc (by rw [hsa]; omega) _
  have bx2 := Bx.made Wa 60 (arC 0 fun _ => 0)
  have bx1' := bx1.new ((Below.refl Wa.heap.size Wa).alloc (Nat.le_refl _) (Obj.cells (arC 0 fun _ => 0) 60))
  obtain ⟨W2, hW2⟩ : ∃ u : World, u = Wa.alloc (Obj.cells (arC 0 fun _ => 0) 60) := ⟨_, rfl⟩
  have hs2 : W2.heap.size = w.heap.size + 2 := by rw [hW2]; simp [hsa]
  rw [← hW2] at hb2 bx2 bx1'
  rw [hsa] at bx2
  have hr2 := (hr.below hb2).more hb2.size
  obtain ⟨C0, C1⟩ := bx1'.two
  have hWe : (w.alloc (Obj.cells #[Value.int IntKind.i64 N, Value.slice A n c] 26)).alloc (Obj.cells (arC 0 fun _ => 0) 60) = W2 := by rw [hW2, hWa]
  have HR := Lib.hid hr
  clear bx1 hW2 hWa hb1 hr
  by_cases hg : gB N X = true
  case neg =>
    have hg' : gB N X = false := by simpa using hg
    have HG := Lib.hid hg'
    have HV := Lib.hid (show arC (rn N X) (rf N X) = arC 0 fun _ => 0 by unfold rn rf; rw [hg']; rfl)
    clear hg hg'
    have HW := Lib.hid hWe
    clear hWe
    go_enter Try.func35, Try.ntmps35
    go_wp2_with fail
    rw [arC_zero, HW.out]
    refine (impIsGraph_any (N := N) (X := X) (c := c) hl hn hr2).mono ?_
    rintro e w3 ⟨rfl, hb3⟩
    rw [HG.out]
    have bx3 := bx2.new hb3
    have hb4 := hb2.trans (hb3.mono hb2.size)
    go_wp2_with (first | (refine stAR (n := 0) (f := fun _ => 0) rfl (.tmp 2) (.tmp 9) rfl bx3 rfl rfl rfl ?_))
    refine bodyPost_ret (resAR rfl (bx3.setRow (arC 0 fun _ => 0)) rfl rfl) rfl ⟨by rw [HV.out], hb4.trans ((setRow_out w3 _ _ (Nat.le_refl _) (Nat.lt_succ_self _)).below (by omega) (by have := hb3.size; omega))⟩
  case pos =>
    obtain ⟨nn, rfl, hn10, hP, hA⟩ := gB_ok hg
    have HG := Lib.hid hg
    have HV := Lib.hid (show arC (rn nn X) (rf nn X) = arC nn (att X) by unfold rn rf; rw [hg]; rfl)
    have HP := Lib.hid hP
    clear hg hA hP
    have HW := Lib.hid hWe
    clear hWe
    go_enter Try.func35, Try.ntmps35
    go_wp2_with fail
    rw [arC_zero, HW.out]
    refine (impIsGraph_any (N := nn) (X := X) (c := c) hl hn hr2).mono ?_
    rintro e w3 ⟨rfl, hb3⟩
    rw [HG.out]
    have bx3 := bx2.new hb3
    have hb4 := hb2.trans (hb3.mono hb2.size)
    obtain ⟨D0, D1⟩ := (bx1'.new hb3).two
    have hs3 := hb3.size
    have hb5 : Below w.heap.size w (w3.alloc (Obj.cells (arC 0 fun _ => 0) 60)) := hb4.alloc (by omega) _
    have k5 := (Below.refl w3.heap.size w3).alloc (Nat.le_refl _) (Obj.cells (arC 0 fun _ => 0) 60)
    have bx5 := bx3.new k5
    have bx6 := Bx.made w3 60 (arC 0 fun _ => 0)
    have bx7 := ((bx1'.new hb3).new k5)
    clear k5
    obtain ⟨W4, hW4⟩ : ∃ u : World, u = w3.alloc (Obj.cells (arC 0 fun _ => 0) 60) := ⟨_, rfl⟩
    have hs4 : W4.heap.size = w3.heap.size + 1 := by rw [hW4]; simp
    rw [← hW4] at hb5 bx5 bx6 bx7
    rw [← arC_lit 0] at hW4
    have hW4' := hW4.symm
    have o5 := setRow_out W4 w3.heap.size (arC nn fun _ => 0) (Nat.le_refl _) (Nat.lt_succ_self _)
    have hb6 : Below w.heap.size w _ := hb5.trans (o5.below (by omega) (by omega))
    have bx8 := bx6.setRow (arC nn fun _ => 0)
    have bx9 := bx5.out o5 (.inl (by omega))
    have bx10 := bx7.out o5 (.inl (by omega))
    obtain ⟨W5, hW5⟩ : ∃ u : World, u = W4.setRow w3.heap.size (arC nn fun _ => 0) := ⟨_, rfl⟩
    rw [← hW5] at o5 hb6 bx8 bx9 bx10
    have HX := Lib.hid hW5.symm
    obtain ⟨E0, E1⟩ := bx10.two
    have hs5 := o5.size
    clear hW4 hW5 bx3 bx5 bx7 bx10 o5
    go_wp2_with (first | (refine stAR (n := nn) (f := fun _ => 0) rfl (.tmp 3) (.tmp 12) rfl bx6 rfl rfl rfl ?_; rw [HX.out]))
    have hr5 := (HR.out.below hb6)
    generalize hgg : w3.heap.size = g at *
    have hP := HP.out
    clear hr2 hb2 hb4 hb5 D0 D1 C0 C1 bx1' bx2 bx6
    go_loopw [16] (fun i wr => ∃ k : Nat, k ≤ n ∧ i = .int .i64 k ∧ Bx wr g 60 (arC nn (att (X.take k))) ∧ Out g (g + 1) W5 wr) (fun i _ => n - (intOf i).toNat)
    case atStart => exact ⟨0, Nat.zero_le _, rfl, bx8, Out.refl⟩
    case round =>
      obtain ⟨k, hk, rfl, hbk, hou⟩ := hrel
      have hbw : Below w.heap.size w _ := hb6.trans (hou.below (by omega) (by omega))
      have hrw := hr5.below (hou.below (by omega) (by omega))
      by_cases hlt : k < n
      · have hkz : k < X.length := by rw [hl.out]; exact hlt
        obtain ⟨ad, Aj, cj, rfl, hab, hc, _, _, hrd⟩ := hrw.at_ hkz
        obtain ⟨p, q, hx, hp, hq⟩ := hP X[k] (List.getElem_mem hkz)
        have HT := Lib.hid (att_take hkz hx)
        have hlt2 := Nat.lt_trans (att_lt hn10 (hP.take k) p) (show 2 ^ 10 < 65536 by decide)
        obtain ⟨f, hf⟩ : ∃ f, f = att (X.take k) := ⟨_, rfl⟩
        rw [← hf] at hbk HT hlt2
        rw [hx] at hc hrd
        rw [show ([(p : Int), (q : Int)] : List Int).length = 2 from rfl] at hc
        obtain ⟨ag, ao, rfl, ha2, e0, e1⟩ := rd2 hrd
        obtain ⟨c0, c1, c2, c3, c4, c5, c6, c7, c8, c9, c10⟩ := hbk.eleven
        have HF := Lib.hid hf
        have HB := Lib.hid hbk
        have i0 : (0 : Int) ≤ (k : Int) := by omega
        have i1 : (k : Int) < (n : Int) := by omega
        clear hbk hx hf hrd
        go_wp2
        go_region_law (first | (go_simp; go_at_call 38; refine (withAttack_any (n := nn) (f := f) (a := p) (b := q) (by omega) (by omega) hlt2).mono ?_; rintro e w9 ⟨rfl, hb9⟩; obtain ⟨cs2, hcs2⟩ : ∃ cs2, cs2 = arC nn (upd f p q) := ⟨_, rfl⟩; rw [← hcs2]; have hz2 : cs2.size = 11 := (by rw [hcs2]; rfl); have hst := (HB.out.drew_.new hb9).store (P := Try.prog) (cs' := cs2) (by rw [hcs2]; rfl) (by rw [hcs2]; exact arC_one _ _); have HS2 := Lib.hid hcs2; clear hcs2))
        all_goals
          have hbx9 := (HB.out.drew_.new hb9).setRow cs2
          have ho9 : Out g (g + 1) W5 (w9.setRow g cs2) := ((hou.drewN 1).trans (Out.of_below hb9)).trans (setRow_out w9 g cs2 (Nat.le_refl _) (Nat.lt_succ_self _))
          go_wp2
          go_roundw
          case rel => exact ⟨k + 1, by omega, by go_num, by rw [HT.out, ← HS2.out]; exact hbx9, ho9⟩
          case measure => simp [intOf]; omega
      · have e : k = n := by omega
        subst e
        rw [List.take_of_length_le (by rw [hl.out]; exact Nat.le_refl _)] at hbk
        have bxr := bx9.out hou (.inl (by omega))
        obtain ⟨f, hf⟩ : ∃ f, f = att X := ⟨_, rfl⟩
        rw [← hf] at hbk HV
        clear hf
        go_wp2_with (first | (refine ldAR rfl (.tmp 3) rfl hbk rfl rfl ?_) | (refine stAR rfl (.tmp 2) (.tmp 29) rfl bxr rfl rfl rfl ?_))
        refine bodyPost_ret (resAR rfl (bxr.setRow (arC nn f)) rfl rfl) rfl ⟨by rw [HV.out], hbw.trans ((setRow_out _ _ _ (Nat.le_refl _) (Nat.lt_succ_self _)).below (by omega) (by have := hou.size; omega))⟩
end Go.Proofs.Ytncndlojceiejaa
