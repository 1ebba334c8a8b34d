/- What the law of chapter 5 says of the sums: without code. -/
import Derived.Test.YtejncjjkcmhmbaaMg7
import Derived.Test.YtejncjjkcmhmbaaMg4
namespace Go.Proofs.Ytejncjjkcmhmbaa
theorem free_iff {n : Nat} {X : List (List Int)} {S : List Int} : freeB n X S = true ↔ setB n X S = true ∧ ∀ z ∈ S, z ∉ hit n X S := by
  unfold freeB
  rw [Bool.and_eq_true, Bool.not_eq_true', List.any_eq_false]
  constructor
  · rintro ⟨h1, h2⟩
    exact ⟨h2, fun z hz h => h1 z hz (List.contains_iff_mem.2 h)⟩
  · rintro ⟨h1, h2⟩
    exact ⟨fun z hz h => h2 z hz (List.contains_iff_mem.1 h), h1⟩
theorem adm_iff {N : Int} {X : List (List Int)} {S : List Int} : admB N X S = true ↔ freeB N X S = true ∧ ∀ z ∈ S, defB N X S z = true := by
  unfold admB
  rw [Bool.and_eq_true, Bool.not_eq_true', List.any_eq_false]
  constructor
  · rintro ⟨h1, h2⟩
    exact ⟨h2, fun z hz => by simpa using h1 z hz⟩
  · rintro ⟨h1, h2⟩
    exact ⟨fun z hz => by simp [h2 z hz], h1⟩
theorem adm_free {N : Int} {X : List (List Int)} {S : List Int} (h : admB N X S = true) : freeB N X S = true := (adm_iff.1 h).1
theorem stab_adm {N : Int} {X : List (List Int)} {S : List Int} (h : stabB N X S = true) : admB N X S = true := by
  unfold stabB at h
  rw [Bool.and_eq_true, Bool.not_eq_true'] at h
  obtain ⟨h1, hf⟩ := h
  have hs := free_set hf
  have hg := setB_g hs
  obtain ⟨n, rfl, _, hp, _⟩ := gB_ok hg
  rw [hs, Bool.true_and, List.any_eq_false] at h1
  obtain ⟨_, hq⟩ := free_iff.1 hf
  refine adm_iff.2 ⟨hf, fun z hz => (defB_iff hg hp z).2 ⟨hs, ((setB_iff hg).1 hs).2 z hz, fun y hy => ?_⟩⟩
  obtain ⟨p, q, e, hpn, hqn⟩ := hp _ hy
  injection e with e1 e2
  subst e1
  have h3 := h1 p (List.mem_range.2 (by simpa using hpn))
  unfold outP at h3
  by_cases hS : (p : Int) ∈ S
  · exact absurd ((hit_mem hg hp z).2 ⟨p, hS, hy⟩) (hq z hz)
  · rw [Bool.and_eq_true, Bool.not_eq_true', Bool.not_eq_true'] at h3
    by_cases hH : (p : Int) ∈ hit n X S
    · exact hH
    · exact absurd ⟨by simpa using hS, by simpa using hH⟩ h3
theorem adm_within {N : Int} {X : List (List Int)} {S : List Int} (h : admB N X S = true) : ∀ z ∈ S, z ∈ defL N X S := fun z hz => by
  obtain ⟨hf, hd⟩ := adm_iff.1 h
  have hg := setB_g (free_set hf)
  obtain ⟨n, rfl, _, hp, _⟩ := gB_ok hg
  exact (defL_mem hg hp z).2 (hd z hz)
theorem all_within {S T : List Int} (h : ∀ z ∈ S, z ∈ T) : (S.all fun z => T.contains z) = true := List.all_eq_true.2 fun z hz => List.contains_iff_mem.2 (h z hz)
theorem defL_contains (N : Int) (X : List (List Int)) {S : List Int} (hs : setB N X S = true) (c : Int) : (defL N X S).contains c = defB N X S c := by
  have hg := setB_g hs
  obtain ⟨n, rfl, _, hp, _⟩ := gB_ok hg
  rw [Bool.eq_iff_iff, List.contains_iff_mem]
  exact defL_mem hg hp c
theorem defL_less {N : Int} {X : List (List Int)} {S S' : List Int} (h' : setB N X S' = true) (h : ∀ z ∈ S, z ∈ S') : ((defL N X S).all fun z => (defL N X S').contains z) = true := by
  have hg := setB_g h'
  obtain ⟨n, rfl, _, hp, _⟩ := gB_ok hg
  exact all_within (defL_mono hg hp h h')
/-- What a set defends that defends itself is free of quarrels too. -/
theorem adm_next {N : Int} {X : List (List Int)} {S : List Int} (h : admB N X S = true) : freeB N X (defL N X S) = true := by
  obtain ⟨hf, hd⟩ := adm_iff.1 h
  have hg := setB_g (free_set hf)
  obtain ⟨n, rfl, _, hp, _⟩ := gB_ok hg
  obtain ⟨_, hq⟩ := free_iff.1 hf
  refine free_iff.2 ⟨defL_set hg hp, fun z hz hh => ?_⟩
  obtain ⟨c, hc, hx⟩ := (hit_mem hg hp z).1 hh
  have h1 := ((defB_iff hg hp z).1 ((defL_mem hg hp z).1 hz)).2.2 c hx
  obtain ⟨s, hs, hx1⟩ := (hit_mem hg hp c).1 h1
  have h2 := ((defB_iff hg hp c).1 ((defL_mem hg hp c).1 hc)).2.2 s hx1
  exact hq s hs h2
theorem adm_step {N : Int} {X : List (List Int)} {S : List Int} (h : admB N X S = true) : admB N X (defL N X S) = true := by
  have hw := adm_within h
  have hg := setB_g (free_set (adm_free h))
  obtain ⟨n, rfl, _, hp, _⟩ := gB_ok hg
  exact adm_iff.2 ⟨adm_next h, fun z hz => (defL_mem hg hp z).1 (defL_mono hg hp hw (defL_set hg hp) z hz)⟩
end Go.Proofs.Ytejncjjkcmhmbaa

/- Contracts of slices.Compare on slices of integers of one length, and of IsGraph's code. No conditions but that the slices have at most 2^40 elements. -/
namespace Go.Proofs.Ytejncjjkcmhmbaa
open Go.ChangeShapes Go.WideShapes Go.ChangeAt Go.RowKit
def cmp1 (a b : Int) : Int := if a < b then -1 else if b < a then 1 else 0
theorem cmpNaN_any (a : Int) (w : World) : Calls Try.prog 155 #[.int .i64 a] w (fun e w' => e = .returned (.bool false) ∧ w = w') := by
  go_enter Try.func155, Try.ntmps155
  go_wp2
  go_ret
  exact ⟨ret_b (by simp), rfl⟩
theorem cmpInt_any (a b : Int) (w : World) : Calls Try.prog 133 #[.int .i64 a, .int .i64 b] w (fun e w' => e = .returned (.int .i64 (cmp1 a b)) ∧ w = w') := by
  by_cases h1 : a < b
  · have H := Lib.hid (show cmp1 a b = -1 by unfold cmp1; rw [if_pos h1])
    go_enter Try.func133, Try.ntmps133
    go_wp2_with (go_at_call 155; refine (cmpNaN_any _ _).mono ?_; rintro e w1 ⟨rfl, rfl⟩)
    go_ret
    exact ⟨by rw [H.out]; rfl, rfl⟩
  · by_cases h2 : b < a
    · have H := Lib.hid (show cmp1 a b = 1 by unfold cmp1; rw [if_neg h1, if_pos h2])
      go_enter Try.func133, Try.ntmps133
      go_wp2_with (go_at_call 155; refine (cmpNaN_any _ _).mono ?_; rintro e w1 ⟨rfl, rfl⟩)
      go_ret
      exact ⟨by rw [H.out]; rfl, rfl⟩
    · have H := Lib.hid (show cmp1 a b = 0 by unfold cmp1; rw [if_neg h1, if_neg h2])
      go_enter Try.func133, Try.ntmps133
      go_wp2_with (go_at_call 155; refine (cmpNaN_any _ _).mono ?_; rintro e w1 ⟨rfl, rfl⟩)
      go_ret
      exact ⟨by rw [H.out]; rfl, rfl⟩
def cmpL : List Int → List Int → Int
  | x :: xs, y :: ys => if cmp1 x y = 0 then cmpL xs ys else cmp1 x y
  | _, _ => 0
theorem cmpL_drop {xs ys : List Int} {k : Nat} (hx : k < xs.length) (hy : k < ys.length) : cmpL (xs.drop k) (ys.drop k) = if cmp1 xs[k] ys[k] = 0 then cmpL (xs.drop (k + 1)) (ys.drop (k + 1)) else cmp1 xs[k] ys[k] := by
  rw [List.drop_eq_getElem_cons hx, List.drop_eq_getElem_cons hy]; rfl
set_option maxRecDepth 100000 in
set_option maxHeartbeats 1600000 in
theorem compare_any {w : World} {A A' : Option Addr} {n c c' : Nat} {xs ys : List Int} (hx : Hid (xs.length = n)) (hy : Hid (ys.length = n)) (hn : n ≤ 1099511627776) (hr : Rd w w.heap.size A (ivs xs)) (hr' : Rd w w.heap.size A' (ivs ys)) :
    Calls Try.prog 90 #[.slice A n c, .slice A' n c'] w (fun e w' => e = .returned (.int .i64 (cmpL xs ys)) ∧ w = w') := by
  go_enter Try.func90, Try.ntmps90
  go_wp2
  go_loop [11] (fun i => ∃ k : Nat, k ≤ n ∧ i = .int .i64 k ∧ Hid (cmpL xs ys = cmpL (xs.drop k) (ys.drop k))) (fun i => n - (intOf i).toNat)
  case atStart => exact ⟨0, Nat.zero_le _, rfl, rfl⟩
  case round =>
    obtain ⟨k, hk, rfl, heq⟩ := hrel
    by_cases hlt : k < n
    · have hkx : k < xs.length := by rw [hx.out]; exact hlt
      have hky : k < ys.length := by rw [hy.out]; exact hlt
      obtain ⟨ad, rfl, hab, hc⟩ := ivs_at hr hkx
      obtain ⟨ad', rfl, hab', hc'⟩ := ivs_at hr' hky
      have hd := cmpL_drop hkx hky
      obtain ⟨x, hxx⟩ : ∃ x, x = xs[k] := ⟨_, rfl⟩
      obtain ⟨y, hyy⟩ : ∃ y, y = ys[k] := ⟨_, rfl⟩
      rw [← hxx] at hc hd
      rw [← hyy] at hc' hd
      clear hxx hyy
      by_cases hz : cmp1 x y = 0
      · rw [if_pos hz] at hd
        have HD := Lib.hid (heq.out.trans hd)
        have HZ := Lib.hid hz
        clear hd hz
        go_wp2_with (go_at_call 133; refine (cmpInt_any _ _ _).mono ?_; rintro e w1 ⟨he, rfl⟩; rw [HZ.out] at he; subst he)
        go_round
        case rel => exact ⟨k + 1, by omega, by go_num, HD.out⟩
        case measure => simp [intOf]; omega
      · rw [if_neg hz] at hd
        have HD := Lib.hid (heq.out.trans hd)
        obtain ⟨z, hzz⟩ : ∃ z, z = cmp1 x y := ⟨_, rfl⟩
        rw [← hzz] at hz
        have HZ := Lib.hid hzz
        clear hd hzz
        go_wp2_with (go_at_call 133; refine (cmpInt_any _ _ _).mono ?_; rintro e w1 ⟨he, rfl⟩; rw [← HZ.out] at he; subst he)
        go_ret
        exact ⟨ret_i (by rw [HD.out, HZ.out]), rfl⟩
    · have e : k = n := by omega
      subst e
      have HE := Lib.hid (show cmpL xs ys = 0 by rw [heq.out, List.drop_of_length_le (by rw [hx.out]; omega)]; rfl)
      go_wp2
      go_ret
      exact ⟨ret_i (by rw [HE.out]), rfl⟩
theorem cmp_lt (p' q' p q : Int) : decide (0 ≤ cmpL [p', q'] [p, q]) = !(ltP [p', q'] [p, q]) := by
  simp only [cmpL, cmp1, ltP, List.getD_cons_zero, List.getD_cons_succ, Bool.not_not]
  by_cases h1 : p' < p
  · have h2 : ¬ p < p' := by omega
    have h3 : ¬ p' = p := by omega
    simp [h1, h2, h3]
  · by_cases h2 : p < p'
    · simp [h1, h2]
    · have h3 : p' = p := by omega
      subst h3
      by_cases h4 : q' < q
      · have h5 : ¬ q ≤ q' := by omega
        simp [h4, h5]
      · by_cases h5 : q < q'
        · have h6 : q ≤ q' := by omega
          simp [h4, h5, h6]
        · have h6 : q ≤ q' := by omega
          simp [h4, h5, h6]
end Go.Proofs.Ytejncjjkcmhmbaa

/- Contract of IsGraph's code. No conditions but that the slices have at most 2^40 elements. -/
namespace Go.Proofs.Ytejncjjkcmhmbaa
open Go.ChangeShapes Go.WideShapes Go.ChangeAt Go.RowKit
theorem isClaim_Q {w : World} {n c : Int} (hn : -9223372036854775807 ≤ n) (hn2 : n ≤ 9223372036854775807) {b : Bool} (hb : inr c 0 (n - 1) = b) : ∀ m, Calls Try.prog 75 #[.int .i64 n, .int .i64 c] (w.drewN m) (fun e w' => e = .returned (.bool b) ∧ ∃ m', w' = (w.drewN m).drewN m') := fun m =>
  (isClaim_any hn hn2).mono fun e w' ⟨h1, h2⟩ => ⟨by rw [h1, hb], 0, h2.symm⟩
set_option maxHeartbeats 8000000 in
set_option maxRecDepth 100000 in
theorem impIsGraph_any {w : World} {A : Option Addr} {n c : Nat} {N : Int} {X : List (List Int)} (hl : Hid (X.length = n)) (hn : n ≤ 1099511627776) (hr : RdSS w w.heap.size A X) :
    Calls Try.prog 32 #[.agg #[.int .i64 N, .slice A n c]] w (Tells (gB N X) w) := by
  have hb0 : Below w.heap.size w (w.alloc (Obj.cells #[Value.int IntKind.i64 N, Value.slice A n c] 27)) := (Below.refl _ _).alloc (Nat.le_refl _) _
  have hr1 := hr.below hb0
  clear hr
  by_cases hN : inr N 0 10 = true
  case neg =>
    have hN' : inr N 0 10 = false := by simpa using hN
    have HN := Lib.hid hN'
    have HB := Lib.hid (show gB N X = false by unfold gB; rw [hN', Bool.and_false])
    clear hN hN'
    go_enter Try.func32, Try.ntmps32
    go_wp2_with (go_at_call 89; refine (inRange_any _ _ _ _).mono ?_; rintro e w1 ⟨he, rfl⟩; rw [HN.out] at he; subst he)
    go_ret
    exact ⟨ret_b HB.out.symm, hb0⟩
  have hNr : 0 ≤ N ∧ N ≤ 10 := by simpa [inr] using hN
  obtain ⟨N0, N1⟩ := hNr
  have HN := Lib.hid hN
  clear hN
  have HM := Lib.hid (show IntKind.i64.wrap (N - 1) = N - 1 from IntWalk.i64_in _ (by omega))
  go_enter Try.func32, Try.ntmps32
  go_wp2_with (go_at_call 89; refine (inRange_any _ _ _ _).mono ?_; rintro e w1 ⟨he, rfl⟩; rw [HN.out] at he; subst he)
  obtain ⟨W1, hW⟩ : ∃ u : World, u = w.alloc (Obj.cells #[Value.int IntKind.i64 N, Value.slice A n c] 27) := ⟨_, rfl⟩
  rw [← hW] at hr1 hb0 ⊢
  have hbx : Bx W1 w.heap.size 27 #[Value.int IntKind.i64 N, Value.slice A n c] := by rw [hW]; exact Bx.made _ _ _
  obtain ⟨C0, C1⟩ := hbx.two
  clear hW hbx
  go_loopw [12] (fun i wr => ∃ k m : Nat, k ≤ n ∧ i = .int .i64 k ∧ wr = W1.drewN m ∧ Hid (GPre (N - 1) X k)) (fun i _ => n - (intOf i).toNat)
  case atStart => exact ⟨0, 0, Nat.zero_le _, rfl, rfl, Lib.hid (fun i hi => absurd hi (by omega))⟩
  case round =>
    obtain ⟨k, m, hk, rfl, rfl, hpre⟩ := hrel
    by_cases hlt : k < n
    · have hkz : k < X.length := by rw [hl.out]; exact hlt
      obtain ⟨ad, Aj, cj, rfl, hab, hc, _, _, hrd⟩ := hr1.at_ hkz
      by_cases h2 : X[k].length = 2
      · obtain ⟨p, q, hx⟩ : ∃ p q, X[k] = [p, q] := by
          match hx : X[k], h2 with
          | [p, q], _ => exact ⟨p, q, rfl⟩
        have hxD := Lib.hid (show X.getD k [] = [p, q] by rw [getD_at hkz, hx])
        rw [hx] at hc hrd
        have HRD := Lib.hid hrd
        obtain ⟨ag, ao, rfl, ha2, e0, e1⟩ := rd2 hrd
        clear h2 hx hrd
        rw [show ([p, q] : List Int).length = 2 from rfl] at hc
        have i0 : 0 ≤ (k : Int) := by omega
        by_cases i1 : inr p 0 (N - 1) = true
        · have J1 := Lib.hid (isClaim_Q (w := W1) (n := N) (c := p) (by omega) (by omega) i1)
          by_cases i2 : inr q 0 (N - 1) = true
          · have J2 := Lib.hid (isClaim_Q (w := W1) (n := N) (c := q) (by omega) (by omega) i2)
            have I1 := Lib.hid i1
            have I2 := Lib.hid i2
            clear i1 i2
            go_wp2
            go_quiet ((first | (go_at_call_of 75 (Value.int IntKind.i64 p); with_reducible exact quiet_addQ J1.out) | (go_at_call_of 75 (Value.int IntKind.i64 q); with_reducible exact quiet_addQ J2.out)))
            by_cases hk0 : k = 0
            · subst hk0
              have HP := Lib.hid (hpre.out.succ (by unfold okI okA; rw [hxD.out]; simp [I1.out, I2.out]))
              go_wp2
              go_roundw
              case rel => exact ⟨1, _, by omega, by go_num, rfl, HP.out⟩
              case measure => simp [intOf]; omega
            · have hkp : 0 < k := by omega
              have hk1 : k - 1 < X.length := by omega
              obtain ⟨p', q', hx'⟩ := okI_two (hpre.out (k - 1) (by omega)) hk1
              obtain ⟨ad', Aj', cj', had, hab', hc', _, _, hrd'⟩ := hr1.at_ hk1
              injection had with had
              subst had
              have hxD' := Lib.hid (show X.getD (k - 1) [] = [p', q'] by rw [getD_at hk1, hx'])
              rw [hx'] at hc' hrd'
              rw [show ([p', q'] : List Int).length = 2 from rfl] at hc'
              have hlp := cmp_lt p' q' p q
              obtain ⟨z, hz⟩ : ∃ z, z = cmpL [p', q'] [p, q] := ⟨_, rfl⟩
              rw [← hz] at hlp
              have HZ := Lib.hid hz
              have R1 := Lib.hid (hrd'.more (Nat.le_of_lt_succ (Nat.lt_succ_of_le hb0.size)))
              have R2 := Lib.hid (HRD.out.more hb0.size)
              clear hz hx' hrd' hab'
              by_cases g1 : ltP [p', q'] [p, q] = true
              · rw [g1] at hlp
                have hz0 : ¬ 0 ≤ z := by simpa using hlp
                have HP := Lib.hid (hpre.out.succ (by unfold okI okA; rw [hxD.out, hxD'.out]; simp [I1.out, I2.out, g1]))
                clear hlp g1
                go_wp2_with (go_at_call 90; refine (compare_any (xs := [p', q']) (ys := [p, q]) (n := 2) (Lib.hid rfl) (Lib.hid rfl) (by omega) (by exact R1.out) (by exact R2.out)).mono ?_; rintro e w1 ⟨he, rfl⟩; rw [← HZ.out] at he; subst he)
                go_roundw
                case rel => exact ⟨k + 1, _, by omega, by go_num, rfl, HP.out⟩
                case measure => simp [intOf]; omega
              · have g1' : ltP [p', q'] [p, q] = false := by simpa using g1
                rw [g1'] at hlp
                have hz0 : 0 ≤ z := by simpa using hlp
                have HB := Lib.hid (gB_bad (N := N) hkz (by rw [HM.out]; unfold okI; rw [hxD.out, hxD'.out]; simp [g1', show ¬ k = 0 by omega]))
                clear hlp g1 g1'
                go_wp2_with (go_at_call 90; refine (compare_any (xs := [p', q']) (ys := [p, q]) (n := 2) (Lib.hid rfl) (Lib.hid rfl) (by omega) (by exact R1.out) (by exact R2.out)).mono ?_; rintro e w1 ⟨he, rfl⟩; rw [← HZ.out] at he; subst he)
                go_ret
                first | exact ⟨ret_b HB.out.symm, below_drewN (below_drewN hb0 _) _⟩ | exact ⟨ret_b HB.out.symm, below_drewN hb0 _⟩
          · have i2' : inr q 0 (N - 1) = false := by simpa using i2
            have J2 := Lib.hid (isClaim_Q (w := W1) (n := N) (c := q) (by omega) (by omega) i2')
            have HB := Lib.hid (gB_bad (N := N) hkz (by rw [HM.out]; unfold okI okA; rw [hxD.out]; simp [i2']))
            clear i1 i2 i2'
            go_wp2
            go_quiet ((first | (go_at_call_of 75 (Value.int IntKind.i64 p); with_reducible exact quiet_addQ J1.out) | (go_at_call_of 75 (Value.int IntKind.i64 q); with_reducible exact quiet_addQ J2.out)))
            go_wp2
            go_ret
            first | exact ⟨ret_b HB.out.symm, below_drewN (below_drewN hb0 _) _⟩ | exact ⟨ret_b HB.out.symm, below_drewN hb0 _⟩
        · have i1' : inr p 0 (N - 1) = false := by simpa using i1
          have J1 := Lib.hid (isClaim_Q (w := W1) (n := N) (c := p) (by omega) (by omega) i1')
          have HB := Lib.hid (gB_bad (N := N) hkz (by rw [HM.out]; unfold okI okA; rw [hxD.out]; simp [i1']))
          clear i1 i1'
          go_wp2
          go_quiet ((go_at_call 75; with_reducible exact quiet_addQ J1.out))
          go_wp2
          go_ret
          first | exact ⟨ret_b HB.out.symm, below_drewN (below_drewN hb0 _) _⟩ | exact ⟨ret_b HB.out.symm, below_drewN hb0 _⟩
      · have HB := Lib.hid (gB_bad (N := N) hkz (by rw [HM.out]; unfold okI okA; rw [getD_at hkz]; simp [h2]))
        have h2' : ¬ ((X[k].length : Int) = 2) := by omega
        obtain ⟨x, hx⟩ : ∃ x, x = X[k] := ⟨_, rfl⟩
        rw [← hx] at hc h2 h2'
        have h2b : ((x.length : Int) == 2) = false := by simpa using h2'
        have h2c : ((x.length : Int) != 2) = true := by simpa using h2'
        have h2d : (x.length == 2) = false := by simpa using h2
        have h2e : (x.length != 2) = true := by simpa using h2
        clear hx hrd
        go_wp2
        go_quiet (fail)
        go_wp2
        go_ret
        first | exact ⟨ret_b HB.out.symm, below_drewN (below_drewN hb0 _) _⟩ | exact ⟨ret_b HB.out.symm, below_drewN hb0 _⟩
    · have e : k = n := by omega
      subst e
      have HE := Lib.hid (gB_end (N := N) (X := X) (by rw [hl.out, HM.out]; exact hpre.out))
      go_wp2
      go_ret
      exact ⟨ret_b (by rw [HE.out, HN.out]), below_drewN hb0 m⟩
end Go.Proofs.Ytejncjjkcmhmbaa
