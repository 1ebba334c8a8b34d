/- Contract of the model's SideFor. Condition: integers of 64 bits; the slice has at most 2^20 elements, each team's at most 2^20. -/
import Derived.Test.YthkigilegnjglaaSfC
namespace Go.Proofs.Ythkigilegnjglaa
open Go.ChangeShapes Go.WideShapes Go.ChangeAt Go.RowKit
set_option maxRecDepth 100000
theorem tw_ij {X : List Tm} {a b : Int} {i : Nat} (hi : fndO X a = some (i : Int)) (hj : fndO X b = some (i : Int)) : a = b := by
  obtain ⟨i', e1, h1, h2, _⟩ := fndO_some hi
  obtain ⟨j', e2, h3, h4, _⟩ := fndO_some hj
  have : i' = j' := by omega
  subst this
  exact h2.symm.trans h4
theorem sf_lt {x y : Tm} (h : y.firsts < x.firsts) : (if befB y x then sidP y x else sidP x y) = (y.id, x.id) := by
  unfold sidP
  rw [if_pos h, if_neg (show ¬ x.firsts < y.firsts by omega)]
  split <;> rfl
theorem sf_gt {x y : Tm} (h : ¬ y.firsts < x.firsts) (h2 : ¬ y.firsts = x.firsts) : (if befB y x then sidP y x else sidP x y) = (x.id, y.id) := by
  unfold sidP
  rw [if_neg h, if_pos (show x.firsts < y.firsts by omega)]
  split <;> rfl
theorem sf_e {x y : Tm} (h2 : y.firsts = x.firsts) : (if befB y x then sidP y x else sidP x y) = if befB y x then (y.id, x.id) else (x.id, y.id) := by
  unfold sidP
  rw [if_neg (show ¬ y.firsts < x.firsts by omega), if_neg (show ¬ x.firsts < y.firsts by omega)]
set_option maxHeartbeats 8000000 in
theorem specSideFor_any {w : World} {A : Option Addr} {n c : Nat} {X : List Tm} {a b : Int} (hl : Hid (X.length = n)) (hn : n ≤ 1048576) (hs : Hid (∀ x ∈ X, x.met.length ≤ 1048576)) (hr : RdT w w.heap.size A X) :
    Calls Try.prog 29 #[.slice A n c, .int .i64 a, .int .i64 b] w (fun e w' => e = .returned (.agg #[.int .i64 (sfP X a b).1, .int .i64 (sfP X a b).2]) ∧ Below w.heap.size w w') := by
  obtain ⟨W0, hW0, x0, b0, z0⟩ := box2T w 38 (.int .i64 0) (.int .i64 0)
  have HW0 := Lib.hid hW0
  have hr := (hr.below b0).more b0.size
  have X0 := Lib.hid x0
  have B0 := Lib.hid b0
  have hs0 := b0.size
  clear hW0 z0 x0 b0
  obtain ⟨fa, hfa⟩ : ∃ v, fndI X a = v := ⟨_, rfl⟩
  obtain ⟨fb, hfb⟩ : ∃ v, fndI X b = v := ⟨_, rfl⟩
  have HFA := Lib.hid hfa
  have HFB := Lib.hid hfb
  clear hfa hfb
  cases hT : atB X with
  | false =>
    have HV := Lib.hid (sf_no (X := X) (a := a) (b := b) (by unfold twB; rw [hT]; rfl))
    have HT := Lib.hid hT
    clear hT
    go_enter Try.func29, Try.ntmps29
    go_wp2_with fail
    rw [HW0.out]
    try (go_wp2_with fail)
    refine (specFindTeam_any hl (by omega) hr).mono ?_
    rintro e u1 ⟨rfl, rfl⟩
    rw [HFA.out]
    go_wp2_with fail
    refine (specFindTeam_any hl (by omega) hr).mono ?_
    rintro e u1 ⟨rfl, rfl⟩
    rw [HFB.out]
    go_wp2_with fail
    refine (specAreTeams_any hl hn hs hr).mono ?_
    rintro e W4 ⟨rfl, b4⟩
    rw [HT.out]
    have x9 := (X0.out.new b4)
    obtain ⟨m0, m1⟩ := x9.c2 (Below.refl _ _)
    have p0 := x9.free 0
    have p1 := x9.free 1
    have HG := Lib.hid ((x9.sets2 (.int .i64 0) (.int .i64 0)).c2 (Below.refl _ _))
    have HQ := Lib.hid (below_sets2 (g := w.heap.size) (x := .int .i64 0) (y := .int .i64 0) (B0.out.trans (b4.mono hs0)) (Nat.le_refl _))
    clear x9
    go_wp2_with fail
    refine bodyPost_ret (v := .agg #[.int .i64 0, .int .i64 0]) (by simp [results, Try.results29, go_sem, HG.out.1, HG.out.2]) rfl ⟨?_, HQ.out⟩
    rw [HV.out]
  | true =>
    cases hA : fndO X a with
    | none =>
      have HV := Lib.hid (sf_no (X := X) (a := a) (b := b) (by unfold twB; rw [hA]; simp))
      have HT := Lib.hid hT
      have HA := Lib.hid (fndI_none hA)
      clear hT hA
      go_enter Try.func29, Try.ntmps29
      go_wp2_with fail
      rw [HW0.out]
      try (go_wp2_with fail)
      refine (specFindTeam_any hl (by omega) hr).mono ?_
      rintro e u1 ⟨rfl, rfl⟩
      rw [HA.out]
      go_wp2_with fail
      refine (specFindTeam_any hl (by omega) hr).mono ?_
      rintro e u1 ⟨rfl, rfl⟩
      rw [HFB.out]
      go_wp2_with fail
      refine (specAreTeams_any hl hn hs hr).mono ?_
      rintro e W4 ⟨rfl, b4⟩
      rw [HT.out]
      have x9 := (X0.out.new b4)
      obtain ⟨m0, m1⟩ := x9.c2 (Below.refl _ _)
      have p0 := x9.free 0
      have p1 := x9.free 1
      have HG := Lib.hid ((x9.sets2 (.int .i64 0) (.int .i64 0)).c2 (Below.refl _ _))
      have HQ := Lib.hid (below_sets2 (g := w.heap.size) (x := .int .i64 0) (y := .int .i64 0) (B0.out.trans (b4.mono hs0)) (Nat.le_refl _))
      clear x9
      go_wp2_with fail
      refine bodyPost_ret (v := .agg #[.int .i64 0, .int .i64 0]) (by simp [results, Try.results29, go_sem, HG.out.1, HG.out.2]) rfl ⟨?_, HQ.out⟩
      rw [HV.out]
    | some v =>
      cases hB : fndO X b with
      | none =>
        have HV := Lib.hid (sf_no (X := X) (a := a) (b := b) (by unfold twB; rw [hB]; simp))
        have HT := Lib.hid hT
        have HA := Lib.hid (fndI_some hA)
        have HB := Lib.hid (fndI_none hB)
        obtain ⟨i, rfl, hi, _, _⟩ := fndO_some hA
        have d1 : decide ((i : Int) < 0) = false := decide_eq_false (by omega)
        clear hT hA hB
        go_enter Try.func29, Try.ntmps29
        go_wp2_with fail
        rw [HW0.out]
        try (go_wp2_with fail)
        refine (specFindTeam_any hl (by omega) hr).mono ?_
        rintro e u1 ⟨rfl, rfl⟩
        rw [HA.out]
        go_wp2_with fail
        refine (specFindTeam_any hl (by omega) hr).mono ?_
        rintro e u1 ⟨rfl, rfl⟩
        rw [HB.out]
        go_wp2_with fail
        refine (specAreTeams_any hl hn hs hr).mono ?_
        rintro e W4 ⟨rfl, b4⟩
        rw [HT.out]
        have x9 := (X0.out.new b4)
        obtain ⟨m0, m1⟩ := x9.c2 (Below.refl _ _)
        have p0 := x9.free 0
        have p1 := x9.free 1
        have HG := Lib.hid ((x9.sets2 (.int .i64 0) (.int .i64 0)).c2 (Below.refl _ _))
        have HQ := Lib.hid (below_sets2 (g := w.heap.size) (x := .int .i64 0) (y := .int .i64 0) (B0.out.trans (b4.mono hs0)) (Nat.le_refl _))
        clear x9
        go_wp2_with fail
        refine bodyPost_ret (v := .agg #[.int .i64 0, .int .i64 0]) (by simp [results, Try.results29, go_sem, HG.out.1, HG.out.2]) rfl ⟨?_, HQ.out⟩
        rw [HV.out]
      | some v' =>
        have htw : twB X a b = true := by unfold twB; rw [hT, hA, hB]; rfl
        have HT := Lib.hid hT
        have HA := Lib.hid (fndI_some hA)
        have HB := Lib.hid (fndI_some hB)
        obtain ⟨i, rfl, hi, hie, _⟩ := fndO_some hA
        obtain ⟨j, rfl, hj, hje, _⟩ := fndO_some hB
        have d1 : decide ((i : Int) < 0) = false := decide_eq_false (by omega)
        have d2 : decide ((j : Int) < 0) = false := decide_eq_false (by omega)
        by_cases hij : i = j
        · have HV := Lib.hid (show sfP X a b = (0, 0) by subst hij; rw [tw_ij hA hB]; exact sf_eq)
          have dij : ((i : Int) == (j : Int)) = true := by simp [hij]
          clear hT hA hB hij hie hje
          go_enter Try.func29, Try.ntmps29
          go_wp2_with fail
          rw [HW0.out]
          try (go_wp2_with fail)
          refine (specFindTeam_any hl (by omega) hr).mono ?_
          rintro e u1 ⟨rfl, rfl⟩
          rw [HA.out]
          go_wp2_with fail
          refine (specFindTeam_any hl (by omega) hr).mono ?_
          rintro e u1 ⟨rfl, rfl⟩
          rw [HB.out]
          go_wp2_with fail
          refine (specAreTeams_any hl hn hs hr).mono ?_
          rintro e W4 ⟨rfl, b4⟩
          rw [HT.out]
          have x9 := (X0.out.new b4)
          obtain ⟨m0, m1⟩ := x9.c2 (Below.refl _ _)
          have p0 := x9.free 0
          have p1 := x9.free 1
          have HG := Lib.hid ((x9.sets2 (.int .i64 0) (.int .i64 0)).c2 (Below.refl _ _))
          have HQ := Lib.hid (below_sets2 (g := w.heap.size) (x := .int .i64 0) (y := .int .i64 0) (B0.out.trans (b4.mono hs0)) (Nat.le_refl _))
          clear x9
          go_wp2_with fail
          refine bodyPost_ret (v := .agg #[.int .i64 0, .int .i64 0]) (by simp [results, Try.results29, go_sem, HG.out.1, HG.out.2]) rfl ⟨?_, HQ.out⟩
          rw [HV.out]
        · have hab : a ≠ b := fun e => by
            subst e
            rw [hA] at hB
            injection hB with hB
            omega
          have HV := Lib.hid (sf_yes htw hab hA hB (List.getElem?_eq_getElem hi) (List.getElem?_eq_getElem hj))
          have dij : ((i : Int) == (j : Int)) = false := by simp; omega
          have hin : i < n := by rw [← hl.out]; exact hi
          have hjn : j < n := by rw [← hl.out]; exact hj
          have i0 : (0 : Int) ≤ (i : Int) := by omega
          have i1 : (i : Int) < (n : Int) := by omega
          have j0 : (0 : Int) ≤ (j : Int) := by omega
          have j1 : (j : Int) < (n : Int) := by omega
          obtain ⟨x, hx⟩ : ∃ x, x = X[i] := ⟨_, rfl⟩
          obtain ⟨y, hy⟩ : ∃ y, y = X[j] := ⟨_, rfl⟩
          rw [← hx] at HV hie
          rw [← hy] at HV hje
          have HX := Lib.hid hx
          have HY := Lib.hid hy
          have HIE := Lib.hid hie
          have HJE := Lib.hid hje
          clear hT hA hB hij hx hy hie hje hab htw
          by_cases h1 : y.firsts < x.firsts
          · have HV2 := Lib.hid (show sfP X a b = (b, a) by rw [HV.out, sf_lt h1, HIE.out, HJE.out])
            have dl : decide (y.firsts < x.firsts) = true := decide_eq_true h1
            clear h1
            go_enter Try.func29, Try.ntmps29
            go_wp2_with fail
            rw [HW0.out]
            try (go_wp2_with fail)
            refine (specFindTeam_any hl (by omega) hr).mono ?_
            rintro e u1 ⟨rfl, rfl⟩
            rw [HA.out]
            go_wp2_with fail
            refine (specFindTeam_any hl (by omega) hr).mono ?_
            rintro e u1 ⟨rfl, rfl⟩
            rw [HB.out]
            go_wp2_with fail
            refine (specAreTeams_any hl hn hs hr).mono ?_
            rintro e W4 ⟨rfl, b4⟩
            rw [HT.out]
            have hr4 := (hr.below b4).more b4.size
            obtain ⟨ad, p, rfl, hp, hab, Ai, ci, h0, h1, h2, h3, h4, h5, _, _, _⟩ := hr4.at_ hi
            obtain ⟨ad', p', e', hp', hab', Aj, cj, g0, g1, g2, g3, g4, g5, _, _, _⟩ := hr4.at_ hj
            injection e' with e'
            subst e'
            rw [← HX.out] at h0 h1 h2 h3 h4 h5
            rw [← HY.out] at g0 g1 g2 g3 g4 g5
            obtain ⟨m, hm⟩ : ∃ m, x.met.length = m := ⟨_, rfl⟩
            obtain ⟨m', hm'⟩ : ∃ m, y.met.length = m := ⟨_, rfl⟩
            rw [hm] at h5
            rw [hm'] at g5
            clear hm hm'
            have KE := fun (u : World) (q : Below W4.heap.size W4 u) => show Below W4.heap.size W4 u ∧ u.cell? ⟨p.block, p.off + 4, none⟩ = some (.int .i64 x.firsts) ∧ u.cell? ⟨p'.block, p'.off + 4, none⟩ = some (.int .i64 y.firsts) from ⟨q, nwc5 q h4, nwc5 q g4⟩
            go_wp2_with fail
            refine wp_region_quiet (C := fun u => Below W4.heap.size W4 u ∧ u.cell? ⟨p.block, p.off + 4, none⟩ = some (.int .i64 x.firsts) ∧ u.cell? ⟨p'.block, p'.off + 4, none⟩ = some (.int .i64 y.firsts)) (by kernel_rfl) (by kernel_rfl) (KE _ (Below.refl W4.heap.size W4).drew) ?_
            rw [List.toList_toArray]
            go_big_quiet_want
            go_big_quiet_op
            go_big_quiet_on
            go_big_quiet_want
            go_big_quiet_op
            go_big_quiet_on
            go_big_quiet_want
            apply Exists.intro
            refine ⟨fun u hu => ?_, ?_⟩
            · obtain ⟨hu0, hu1, hu2⟩ := hu
              unfold Oper.quietAt
              go_simp
              try rfl
            simp only [Act.put, List.setIfInBounds_toArray, List.set_cons_zero, List.set_cons_succ]
            go_big_quiet_on
            go_big_quiet_want
            apply Exists.intro
            refine ⟨fun u hu => ?_, ?_⟩
            · obtain ⟨hu0, hu1, hu2⟩ := hu
              unfold Oper.quietAt
              go_simp
              try rfl
            simp only [Act.put, List.setIfInBounds_toArray, List.set_cons_zero, List.set_cons_succ]
            go_big_quiet_on
            go_big_quiet_want
            apply Exists.intro
            refine ⟨fun u hu => ?_, ?_⟩
            · obtain ⟨hu0, hu1, hu2⟩ := hu
              unfold Oper.quietAt
              go_simp
              try rfl
            simp only [Act.put, List.setIfInBounds_toArray, List.set_cons_zero, List.set_cons_succ]
            go_big_quiet_on
            go_big_quiet_want
            go_big_quiet_op
            go_big_quiet_on
            go_big_quiet_want
            go_big_quiet_op
            go_big_quiet_on
            go_big_quiet_want
            apply Exists.intro
            refine ⟨fun u hu => ?_, ?_⟩
            · obtain ⟨hu0, hu1, hu2⟩ := hu
              unfold Oper.quietAt
              go_simp
              try rfl
            simp only [Act.put, List.setIfInBounds_toArray, List.set_cons_zero, List.set_cons_succ]
            go_big_quiet_on
            go_big_quiet_want
            apply Exists.intro
            refine ⟨fun u hu => ?_, ?_⟩
            · obtain ⟨hu0, hu1, hu2⟩ := hu
              unfold Oper.quietAt
              go_simp
              try rfl
            simp only [Act.put, List.setIfInBounds_toArray, List.set_cons_zero, List.set_cons_succ]
            go_big_quiet_on
            go_big_quiet_want
            apply Exists.intro
            refine ⟨fun u hu => ?_, ?_⟩
            · obtain ⟨hu0, hu1, hu2⟩ := hu
              unfold Oper.quietAt
              go_simp
              try rfl
            simp only [Act.put, List.setIfInBounds_toArray, List.set_cons_zero, List.set_cons_succ]
            go_big_quiet_on
            go_big_quiet_want
            apply Exists.intro
            refine ⟨fun u hu => ?_, ?_⟩
            · obtain ⟨hu0, hu1, hu2⟩ := hu
              unfold Oper.quietAt
              go_simp
              try rfl
            simp only [Act.put, List.setIfInBounds_toArray, List.set_cons_zero, List.set_cons_succ]
            go_big_quiet_on
            go_big_quiet_want
            go_big_quiet_op
            go_big_quiet_on
            repeat go_big_quiet_skip
            go_big_quiet_want
            apply Exists.intro
            refine ⟨fun u hu => ?_, ?_⟩
            · obtain ⟨hu0, hu1, hu2⟩ := hu
              unfold Oper.quietAt
              go_simp
              try rfl
            simp only [Act.put, List.setIfInBounds_toArray, List.set_cons_zero, List.set_cons_succ]
            go_big_quiet_on
            refine wpQuiet_nil ?_
            rintro u3 ⟨k8, _⟩
            have x9 := ((X0.out.new b4).new k8)
            obtain ⟨m0, m1⟩ := x9.c2 (Below.refl _ _)
            have p0 := x9.free 0
            have p1 := x9.free 1
            have HG := Lib.hid ((x9.sets2 (.int .i64 b) (.int .i64 a)).c2 (Below.refl _ _))
            have HQ := Lib.hid (below_sets2 (g := w.heap.size) (x := .int .i64 b) (y := .int .i64 a) (B0.out.trans ((b4.trans (k8.mono b4.size)).mono hs0)) (Nat.le_refl _))
            clear x9
            go_wp2_with fail
            refine bodyPost_ret (v := .agg #[.int .i64 b, .int .i64 a]) (by simp [results, Try.results29, go_sem, HG.out.1, HG.out.2]) rfl ⟨?_, HQ.out⟩
            rw [HV2.out]
          · have dl : decide (y.firsts < x.firsts) = false := decide_eq_false h1
            by_cases h2 : y.firsts = x.firsts
            · obtain ⟨bb, hbb⟩ : ∃ v, befB y x = v := ⟨_, rfl⟩
              have HV2 := Lib.hid (show sfP X a b = if bb then (b, a) else (a, b) by rw [HV.out, sf_e h2, hbb, HIE.out, HJE.out])
              have HBB := Lib.hid hbb
              have de : (y.firsts == x.firsts) = true := by simpa using h2
              clear h1 h2 hbb
              go_enter Try.func29, Try.ntmps29
              go_wp2_with fail
              rw [HW0.out]
              try (go_wp2_with fail)
              refine (specFindTeam_any hl (by omega) hr).mono ?_
              rintro e u1 ⟨rfl, rfl⟩
              rw [HA.out]
              go_wp2_with fail
              refine (specFindTeam_any hl (by omega) hr).mono ?_
              rintro e u1 ⟨rfl, rfl⟩
              rw [HB.out]
              go_wp2_with fail
              refine (specAreTeams_any hl hn hs hr).mono ?_
              rintro e W4 ⟨rfl, b4⟩
              rw [HT.out]
              have hr4 := (hr.below b4).more b4.size
              obtain ⟨ad, p, rfl, hp, hab, Ai, ci, h0, h1, h2, h3, h4, h5, _, _, _⟩ := hr4.at_ hi
              obtain ⟨ad', p', e', hp', hab', Aj, cj, g0, g1, g2, g3, g4, g5, _, _, _⟩ := hr4.at_ hj
              injection e' with e'
              subst e'
              rw [← HX.out] at h0 h1 h2 h3 h4 h5
              rw [← HY.out] at g0 g1 g2 g3 g4 g5
              obtain ⟨m, hm⟩ : ∃ m, x.met.length = m := ⟨_, rfl⟩
              obtain ⟨m', hm'⟩ : ∃ m, y.met.length = m := ⟨_, rfl⟩
              rw [hm] at h5
              rw [hm'] at g5
              clear hm hm'
              have KE := fun (u : World) (q : Below W4.heap.size W4 u) => show Below W4.heap.size W4 u ∧ u.cell? p = some (.int .i64 x.id) ∧ u.cell? ⟨p.block, p.off + 1, none⟩ = some (.int .i64 x.club) ∧ u.cell? ⟨p.block, p.off + 2, none⟩ = some (.int .i64 x.wins) ∧ u.cell? ⟨p.block, p.off + 3, none⟩ = some (.int .i64 x.pts) ∧ u.cell? ⟨p.block, p.off + 4, none⟩ = some (.int .i64 x.firsts) ∧ u.cell? ⟨p.block, p.off + 5, none⟩ = some (.slice Ai m ci) ∧ u.cell? p' = some (.int .i64 y.id) ∧ u.cell? ⟨p'.block, p'.off + 1, none⟩ = some (.int .i64 y.club) ∧ u.cell? ⟨p'.block, p'.off + 2, none⟩ = some (.int .i64 y.wins) ∧ u.cell? ⟨p'.block, p'.off + 3, none⟩ = some (.int .i64 y.pts) ∧ u.cell? ⟨p'.block, p'.off + 4, none⟩ = some (.int .i64 y.firsts) ∧ u.cell? ⟨p'.block, p'.off + 5, none⟩ = some (.slice Aj m' cj) from ⟨q, nwc5 q h0, nwc5 q h1, nwc5 q h2, nwc5 q h3, nwc5 q h4, nwc5 q h5, nwc5 q g0, nwc5 q g1, nwc5 q g2, nwc5 q g3, nwc5 q g4, nwc5 q g5⟩
              go_wp2_with fail
              refine wp_region_quiet (C := fun u => Below W4.heap.size W4 u ∧ u.cell? p = some (.int .i64 x.id) ∧ u.cell? ⟨p.block, p.off + 1, none⟩ = some (.int .i64 x.club) ∧ u.cell? ⟨p.block, p.off + 2, none⟩ = some (.int .i64 x.wins) ∧ u.cell? ⟨p.block, p.off + 3, none⟩ = some (.int .i64 x.pts) ∧ u.cell? ⟨p.block, p.off + 4, none⟩ = some (.int .i64 x.firsts) ∧ u.cell? ⟨p.block, p.off + 5, none⟩ = some (.slice Ai m ci) ∧ u.cell? p' = some (.int .i64 y.id) ∧ u.cell? ⟨p'.block, p'.off + 1, none⟩ = some (.int .i64 y.club) ∧ u.cell? ⟨p'.block, p'.off + 2, none⟩ = some (.int .i64 y.wins) ∧ u.cell? ⟨p'.block, p'.off + 3, none⟩ = some (.int .i64 y.pts) ∧ u.cell? ⟨p'.block, p'.off + 4, none⟩ = some (.int .i64 y.firsts) ∧ u.cell? ⟨p'.block, p'.off + 5, none⟩ = some (.slice Aj m' cj)) (by kernel_rfl) (by kernel_rfl) (KE _ (Below.refl W4.heap.size W4).drew) ?_
              rw [List.toList_toArray]
              go_big_quiet_want
              go_big_quiet_op
              go_big_quiet_on
              go_big_quiet_want
              go_big_quiet_op
              go_big_quiet_on
              go_big_quiet_want
              apply Exists.intro
              refine ⟨fun u hu => ?_, ?_⟩
              · obtain ⟨hu0, hu1, hu2, hu3, hu4, hu5, hu6, hu7, hu8, hu9, hu10, hu11, hu12⟩ := hu
                unfold Oper.quietAt
                go_simp
                try rfl
              simp only [Act.put, List.setIfInBounds_toArray, List.set_cons_zero, List.set_cons_succ]
              go_big_quiet_on
              go_big_quiet_want
              apply Exists.intro
              refine ⟨fun u hu => ?_, ?_⟩
              · obtain ⟨hu0, hu1, hu2, hu3, hu4, hu5, hu6, hu7, hu8, hu9, hu10, hu11, hu12⟩ := hu
                unfold Oper.quietAt
                go_simp
                try rfl
              simp only [Act.put, List.setIfInBounds_toArray, List.set_cons_zero, List.set_cons_succ]
              go_big_quiet_on
              go_big_quiet_want
              apply Exists.intro
              refine ⟨fun u hu => ?_, ?_⟩
              · obtain ⟨hu0, hu1, hu2, hu3, hu4, hu5, hu6, hu7, hu8, hu9, hu10, hu11, hu12⟩ := hu
                unfold Oper.quietAt
                go_simp
                try rfl
              simp only [Act.put, List.setIfInBounds_toArray, List.set_cons_zero, List.set_cons_succ]
              go_big_quiet_on
              go_big_quiet_want
              go_big_quiet_op
              go_big_quiet_on
              go_big_quiet_want
              go_big_quiet_op
              go_big_quiet_on
              go_big_quiet_want
              apply Exists.intro
              refine ⟨fun u hu => ?_, ?_⟩
              · obtain ⟨hu0, hu1, hu2, hu3, hu4, hu5, hu6, hu7, hu8, hu9, hu10, hu11, hu12⟩ := hu
                unfold Oper.quietAt
                go_simp
                try rfl
              simp only [Act.put, List.setIfInBounds_toArray, List.set_cons_zero, List.set_cons_succ]
              go_big_quiet_on
              go_big_quiet_want
              apply Exists.intro
              refine ⟨fun u hu => ?_, ?_⟩
              · obtain ⟨hu0, hu1, hu2, hu3, hu4, hu5, hu6, hu7, hu8, hu9, hu10, hu11, hu12⟩ := hu
                unfold Oper.quietAt
                go_simp
                try rfl
              simp only [Act.put, List.setIfInBounds_toArray, List.set_cons_zero, List.set_cons_succ]
              go_big_quiet_on
              go_big_quiet_want
              apply Exists.intro
              refine ⟨fun u hu => ?_, ?_⟩
              · obtain ⟨hu0, hu1, hu2, hu3, hu4, hu5, hu6, hu7, hu8, hu9, hu10, hu11, hu12⟩ := hu
                unfold Oper.quietAt
                go_simp
                try rfl
              simp only [Act.put, List.setIfInBounds_toArray, List.set_cons_zero, List.set_cons_succ]
              go_big_quiet_on
              go_big_quiet_want
              apply Exists.intro
              refine ⟨fun u hu => ?_, ?_⟩
              · obtain ⟨hu0, hu1, hu2, hu3, hu4, hu5, hu6, hu7, hu8, hu9, hu10, hu11, hu12⟩ := hu
                unfold Oper.quietAt
                go_simp
                try rfl
              simp only [Act.put, List.setIfInBounds_toArray, List.set_cons_zero, List.set_cons_succ]
              go_big_quiet_on
              go_big_quiet_want
              go_big_quiet_op
              go_big_quiet_on
              go_big_quiet_want
              go_big_quiet_op
              go_big_quiet_on
              go_big_quiet_want
              go_big_quiet_op
              go_big_quiet_on
              go_big_quiet_want
              apply Exists.intro
              refine ⟨fun u hu => ?_, ?_⟩
              · obtain ⟨hu0, hu1, hu2, hu3, hu4, hu5, hu6, hu7, hu8, hu9, hu10, hu11, hu12⟩ := hu
                unfold Oper.quietAt
                go_simp
                try rfl
              simp only [Act.put, List.setIfInBounds_toArray, List.set_cons_zero, List.set_cons_succ]
              go_big_quiet_on
              go_big_quiet_want
              apply Exists.intro
              refine ⟨fun u hu => ?_, ?_⟩
              · obtain ⟨hu0, hu1, hu2, hu3, hu4, hu5, hu6, hu7, hu8, hu9, hu10, hu11, hu12⟩ := hu
                unfold Oper.quietAt
                go_simp
                try rfl
              simp only [Act.put, List.setIfInBounds_toArray, List.set_cons_zero, List.set_cons_succ]
              go_big_quiet_on
              go_big_quiet_want
              apply Exists.intro
              refine ⟨fun u hu => ?_, ?_⟩
              · obtain ⟨hu0, hu1, hu2, hu3, hu4, hu5, hu6, hu7, hu8, hu9, hu10, hu11, hu12⟩ := hu
                unfold Oper.quietAt
                go_simp
                try rfl
              simp only [Act.put, List.setIfInBounds_toArray, List.set_cons_zero, List.set_cons_succ]
              go_big_quiet_on
              go_big_quiet_want
              go_big_quiet_op
              go_big_quiet_on
              go_big_quiet_want
              go_big_quiet_op
              go_big_quiet_on
              go_big_quiet_want
              apply Exists.intro
              refine ⟨fun u hu => ?_, ?_⟩
              · obtain ⟨hu0, hu1, hu2, hu3, hu4, hu5, hu6, hu7, hu8, hu9, hu10, hu11, hu12⟩ := hu
                unfold Oper.quietAt
                go_simp
                try rfl
              simp only [Act.put, List.setIfInBounds_toArray, List.set_cons_zero, List.set_cons_succ]
              go_big_quiet_on
              go_big_quiet_want
              apply Exists.intro
              refine ⟨fun u hu => ?_, ?_⟩
              · obtain ⟨hu0, hu1, hu2, hu3, hu4, hu5, hu6, hu7, hu8, hu9, hu10, hu11, hu12⟩ := hu
                unfold Oper.quietAt
                go_simp
                try rfl
              simp only [Act.put, List.setIfInBounds_toArray, List.set_cons_zero, List.set_cons_succ]
              go_big_quiet_on
              go_big_quiet_want
              apply Exists.intro
              refine ⟨fun u hu => ?_, ?_⟩
              · obtain ⟨hu0, hu1, hu2, hu3, hu4, hu5, hu6, hu7, hu8, hu9, hu10, hu11, hu12⟩ := hu
                unfold Oper.quietAt
                go_simp
                try rfl
              simp only [Act.put, List.setIfInBounds_toArray, List.set_cons_zero, List.set_cons_succ]
              go_big_quiet_on
              go_big_quiet_want
              apply Exists.intro
              refine ⟨fun u hu => ?_, ?_⟩
              · obtain ⟨hu0, hu1, hu2, hu3, hu4, hu5, hu6, hu7, hu8, hu9, hu10, hu11, hu12⟩ := hu
                unfold Oper.quietAt
                go_simp
                try rfl
              simp only [Act.put, List.setIfInBounds_toArray, List.set_cons_zero, List.set_cons_succ]
              go_big_quiet_on
              go_big_quiet_want
              go_big_quiet_op
              go_big_quiet_on
              go_big_quiet_want
              go_big_quiet_op
              go_big_quiet_on
              go_big_quiet_want
              go_big_quiet_op
              go_big_quiet_on
              go_big_quiet_want
              apply Exists.intro
              refine ⟨fun u hu => ?_, ?_⟩
              · obtain ⟨hu0, hu1, hu2, hu3, hu4, hu5, hu6, hu7, hu8, hu9, hu10, hu11, hu12⟩ := hu
                unfold Oper.quietAt
                go_simp
                try rfl
              simp only [Act.put, List.setIfInBounds_toArray, List.set_cons_zero, List.set_cons_succ]
              go_big_quiet_on
              go_big_quiet_want
              apply Exists.intro
              refine ⟨fun u hu => ?_, ?_⟩
              · obtain ⟨hu0, hu1, hu2, hu3, hu4, hu5, hu6, hu7, hu8, hu9, hu10, hu11, hu12⟩ := hu
                unfold Oper.quietAt
                go_simp
                try rfl
              simp only [Act.put, List.setIfInBounds_toArray, List.set_cons_zero, List.set_cons_succ]
              go_big_quiet_on
              go_big_quiet_want
              go_big_quiet_op
              go_big_quiet_on
              go_big_quiet_want
              go_big_quiet_op
              go_big_quiet_on
              go_big_quiet_want
              apply Exists.intro
              refine ⟨fun u hu => ?_, ?_⟩
              · obtain ⟨hu0, hu1, hu2, hu3, hu4, hu5, hu6, hu7, hu8, hu9, hu10, hu11, hu12⟩ := hu
                unfold Oper.quietAt
                go_simp
                try rfl
              simp only [Act.put, List.setIfInBounds_toArray, List.set_cons_zero, List.set_cons_succ]
              go_big_quiet_on
              go_big_quiet_want
              apply Exists.intro
              refine ⟨fun u hu => ?_, ?_⟩
              · obtain ⟨hu0, hu1, hu2, hu3, hu4, hu5, hu6, hu7, hu8, hu9, hu10, hu11, hu12⟩ := hu
                unfold Oper.quietAt
                go_simp
                try rfl
              simp only [Act.put, List.setIfInBounds_toArray, List.set_cons_zero, List.set_cons_succ]
              go_big_quiet_on
              go_big_quiet_want
              refine ⟨.bool bb, fun u hu => ?_, ?_⟩
              · obtain ⟨hu0, hu1, hu2, hu3, hu4, hu5, hu6, hu7, hu8, hu9, hu10, hu11, hu12⟩ := hu
                unfold Oper.quietAt
                go_simp
                refine (l19Before_any (x := y) (y := x)).mono ?_
                rintro e u9 ⟨he, k9⟩
                rw [HBB.out] at he
                exact ⟨he, KE _ (hu0.trans (k9.mono hu0.size))⟩
              simp only [Act.put, List.setIfInBounds_toArray, List.set_cons_zero, List.set_cons_succ]
              go_big_quiet_on
              go_big_quiet_want
              apply Exists.intro
              refine ⟨fun u hu => ?_, ?_⟩
              · obtain ⟨hu0, hu1, hu2, hu3, hu4, hu5, hu6, hu7, hu8, hu9, hu10, hu11, hu12⟩ := hu
                unfold Oper.quietAt
                go_simp
                try rfl
              simp only [Act.put, List.setIfInBounds_toArray, List.set_cons_zero, List.set_cons_succ]
              go_big_quiet_on
              go_big_quiet_want
              apply Exists.intro
              refine ⟨fun u hu => ?_, ?_⟩
              · obtain ⟨hu0, hu1, hu2, hu3, hu4, hu5, hu6, hu7, hu8, hu9, hu10, hu11, hu12⟩ := hu
                unfold Oper.quietAt
                go_simp
                try rfl
              simp only [Act.put, List.setIfInBounds_toArray, List.set_cons_zero, List.set_cons_succ]
              go_big_quiet_on
              refine wpQuiet_nil ?_
              rintro u3 ⟨k8, _⟩
              cases bb with
              | true =>
                have x9 := ((X0.out.new b4).new k8)
                obtain ⟨m0, m1⟩ := x9.c2 (Below.refl _ _)
                have p0 := x9.free 0
                have p1 := x9.free 1
                have HG := Lib.hid ((x9.sets2 (.int .i64 b) (.int .i64 a)).c2 (Below.refl _ _))
                have HQ := Lib.hid (below_sets2 (g := w.heap.size) (x := .int .i64 b) (y := .int .i64 a) (B0.out.trans ((b4.trans (k8.mono b4.size)).mono hs0)) (Nat.le_refl _))
                clear x9
                go_wp2_with fail
                refine bodyPost_ret (v := .agg #[.int .i64 b, .int .i64 a]) (by simp [results, Try.results29, go_sem, HG.out.1, HG.out.2]) rfl ⟨?_, HQ.out⟩
                rw [HV2.out]; rfl
              | false =>
                have x9 := ((X0.out.new b4).new k8)
                obtain ⟨m0, m1⟩ := x9.c2 (Below.refl _ _)
                have p0 := x9.free 0
                have p1 := x9.free 1
                have HG := Lib.hid ((x9.sets2 (.int .i64 a) (.int .i64 b)).c2 (Below.refl _ _))
                have HQ := Lib.hid (below_sets2 (g := w.heap.size) (x := .int .i64 a) (y := .int .i64 b) (B0.out.trans ((b4.trans (k8.mono b4.size)).mono hs0)) (Nat.le_refl _))
                clear x9
                go_wp2_with fail
                refine bodyPost_ret (v := .agg #[.int .i64 a, .int .i64 b]) (by simp [results, Try.results29, go_sem, HG.out.1, HG.out.2]) rfl ⟨?_, HQ.out⟩
                rw [HV2.out]; rfl
            · have HV2 := Lib.hid (show sfP X a b = (a, b) by rw [HV.out, sf_gt h1 h2, HIE.out, HJE.out])
              have de : (y.firsts == x.firsts) = false := by simpa using h2
              clear h1 h2
              go_enter Try.func29, Try.ntmps29
              go_wp2_with fail
              rw [HW0.out]
              try (go_wp2_with fail)
              refine (specFindTeam_any hl (by omega) hr).mono ?_
              rintro e u1 ⟨rfl, rfl⟩
              rw [HA.out]
              go_wp2_with fail
              refine (specFindTeam_any hl (by omega) hr).mono ?_
              rintro e u1 ⟨rfl, rfl⟩
              rw [HB.out]
              go_wp2_with fail
              refine (specAreTeams_any hl hn hs hr).mono ?_
              rintro e W4 ⟨rfl, b4⟩
              rw [HT.out]
              have hr4 := (hr.below b4).more b4.size
              obtain ⟨ad, p, rfl, hp, hab, Ai, ci, h0, h1, h2, h3, h4, h5, _, _, _⟩ := hr4.at_ hi
              obtain ⟨ad', p', e', hp', hab', Aj, cj, g0, g1, g2, g3, g4, g5, _, _, _⟩ := hr4.at_ hj
              injection e' with e'
              subst e'
              rw [← HX.out] at h0 h1 h2 h3 h4 h5
              rw [← HY.out] at g0 g1 g2 g3 g4 g5
              obtain ⟨m, hm⟩ : ∃ m, x.met.length = m := ⟨_, rfl⟩
              obtain ⟨m', hm'⟩ : ∃ m, y.met.length = m := ⟨_, rfl⟩
              rw [hm] at h5
              rw [hm'] at g5
              clear hm hm'
              have KE := fun (u : World) (q : Below W4.heap.size W4 u) => show Below W4.heap.size W4 u ∧ u.cell? ⟨p.block, p.off + 4, none⟩ = some (.int .i64 x.firsts) ∧ u.cell? ⟨p'.block, p'.off + 4, none⟩ = some (.int .i64 y.firsts) from ⟨q, nwc5 q h4, nwc5 q g4⟩
              go_wp2_with fail
              refine wp_region_quiet (C := fun u => Below W4.heap.size W4 u ∧ u.cell? ⟨p.block, p.off + 4, none⟩ = some (.int .i64 x.firsts) ∧ u.cell? ⟨p'.block, p'.off + 4, none⟩ = some (.int .i64 y.firsts)) (by kernel_rfl) (by kernel_rfl) (KE _ (Below.refl W4.heap.size W4).drew) ?_
              rw [List.toList_toArray]
              go_big_quiet_want
              go_big_quiet_op
              go_big_quiet_on
              go_big_quiet_want
              go_big_quiet_op
              go_big_quiet_on
              go_big_quiet_want
              apply Exists.intro
              refine ⟨fun u hu => ?_, ?_⟩
              · obtain ⟨hu0, hu1, hu2⟩ := hu
                unfold Oper.quietAt
                go_simp
                try rfl
              simp only [Act.put, List.setIfInBounds_toArray, List.set_cons_zero, List.set_cons_succ]
              go_big_quiet_on
              go_big_quiet_want
              apply Exists.intro
              refine ⟨fun u hu => ?_, ?_⟩
              · obtain ⟨hu0, hu1, hu2⟩ := hu
                unfold Oper.quietAt
                go_simp
                try rfl
              simp only [Act.put, List.setIfInBounds_toArray, List.set_cons_zero, List.set_cons_succ]
              go_big_quiet_on
              go_big_quiet_want
              apply Exists.intro
              refine ⟨fun u hu => ?_, ?_⟩
              · obtain ⟨hu0, hu1, hu2⟩ := hu
                unfold Oper.quietAt
                go_simp
                try rfl
              simp only [Act.put, List.setIfInBounds_toArray, List.set_cons_zero, List.set_cons_succ]
              go_big_quiet_on
              go_big_quiet_want
              go_big_quiet_op
              go_big_quiet_on
              go_big_quiet_want
              go_big_quiet_op
              go_big_quiet_on
              go_big_quiet_want
              apply Exists.intro
              refine ⟨fun u hu => ?_, ?_⟩
              · obtain ⟨hu0, hu1, hu2⟩ := hu
                unfold Oper.quietAt
                go_simp
                try rfl
              simp only [Act.put, List.setIfInBounds_toArray, List.set_cons_zero, List.set_cons_succ]
              go_big_quiet_on
              go_big_quiet_want
              apply Exists.intro
              refine ⟨fun u hu => ?_, ?_⟩
              · obtain ⟨hu0, hu1, hu2⟩ := hu
                unfold Oper.quietAt
                go_simp
                try rfl
              simp only [Act.put, List.setIfInBounds_toArray, List.set_cons_zero, List.set_cons_succ]
              go_big_quiet_on
              go_big_quiet_want
              apply Exists.intro
              refine ⟨fun u hu => ?_, ?_⟩
              · obtain ⟨hu0, hu1, hu2⟩ := hu
                unfold Oper.quietAt
                go_simp
                try rfl
              simp only [Act.put, List.setIfInBounds_toArray, List.set_cons_zero, List.set_cons_succ]
              go_big_quiet_on
              go_big_quiet_want
              apply Exists.intro
              refine ⟨fun u hu => ?_, ?_⟩
              · obtain ⟨hu0, hu1, hu2⟩ := hu
                unfold Oper.quietAt
                go_simp
                try rfl
              simp only [Act.put, List.setIfInBounds_toArray, List.set_cons_zero, List.set_cons_succ]
              go_big_quiet_on
              go_big_quiet_want
              go_big_quiet_op
              go_big_quiet_on
              go_big_quiet_want
              go_big_quiet_op
              go_big_quiet_on
              go_big_quiet_want
              go_big_quiet_op
              go_big_quiet_on
              go_big_quiet_want
              apply Exists.intro
              refine ⟨fun u hu => ?_, ?_⟩
              · obtain ⟨hu0, hu1, hu2⟩ := hu
                unfold Oper.quietAt
                go_simp
                try rfl
              simp only [Act.put, List.setIfInBounds_toArray, List.set_cons_zero, List.set_cons_succ]
              go_big_quiet_on
              go_big_quiet_want
              apply Exists.intro
              refine ⟨fun u hu => ?_, ?_⟩
              · obtain ⟨hu0, hu1, hu2⟩ := hu
                unfold Oper.quietAt
                go_simp
                try rfl
              simp only [Act.put, List.setIfInBounds_toArray, List.set_cons_zero, List.set_cons_succ]
              go_big_quiet_on
              go_big_quiet_want
              apply Exists.intro
              refine ⟨fun u hu => ?_, ?_⟩
              · obtain ⟨hu0, hu1, hu2⟩ := hu
                unfold Oper.quietAt
                go_simp
                try rfl
              simp only [Act.put, List.setIfInBounds_toArray, List.set_cons_zero, List.set_cons_succ]
              go_big_quiet_on
              go_big_quiet_want
              go_big_quiet_op
              go_big_quiet_on
              go_big_quiet_want
              go_big_quiet_op
              go_big_quiet_on
              go_big_quiet_want
              apply Exists.intro
              refine ⟨fun u hu => ?_, ?_⟩
              · obtain ⟨hu0, hu1, hu2⟩ := hu
                unfold Oper.quietAt
                go_simp
                try rfl
              simp only [Act.put, List.setIfInBounds_toArray, List.set_cons_zero, List.set_cons_succ]
              go_big_quiet_on
              go_big_quiet_want
              apply Exists.intro
              refine ⟨fun u hu => ?_, ?_⟩
              · obtain ⟨hu0, hu1, hu2⟩ := hu
                unfold Oper.quietAt
                go_simp
                try rfl
              simp only [Act.put, List.setIfInBounds_toArray, List.set_cons_zero, List.set_cons_succ]
              go_big_quiet_on
              go_big_quiet_want
              apply Exists.intro
              refine ⟨fun u hu => ?_, ?_⟩
              · obtain ⟨hu0, hu1, hu2⟩ := hu
                unfold Oper.quietAt
                go_simp
                try rfl
              simp only [Act.put, List.setIfInBounds_toArray, List.set_cons_zero, List.set_cons_succ]
              go_big_quiet_on
              go_big_quiet_want
              apply Exists.intro
              refine ⟨fun u hu => ?_, ?_⟩
              · obtain ⟨hu0, hu1, hu2⟩ := hu
                unfold Oper.quietAt
                go_simp
                try rfl
              simp only [Act.put, List.setIfInBounds_toArray, List.set_cons_zero, List.set_cons_succ]
              go_big_quiet_on
              go_big_quiet_want
              go_big_quiet_op
              go_big_quiet_on
              repeat go_big_quiet_skip
              go_big_quiet_want
              apply Exists.intro
              refine ⟨fun u hu => ?_, ?_⟩
              · obtain ⟨hu0, hu1, hu2⟩ := hu
                unfold Oper.quietAt
                go_simp
                try rfl
              simp only [Act.put, List.setIfInBounds_toArray, List.set_cons_zero, List.set_cons_succ]
              go_big_quiet_on
              go_big_quiet_want
              apply Exists.intro
              refine ⟨fun u hu => ?_, ?_⟩
              · obtain ⟨hu0, hu1, hu2⟩ := hu
                unfold Oper.quietAt
                go_simp
                try rfl
              simp only [Act.put, List.setIfInBounds_toArray, List.set_cons_zero, List.set_cons_succ]
              go_big_quiet_on
              refine wpQuiet_nil ?_
              rintro u3 ⟨k8, _⟩
              have x9 := ((X0.out.new b4).new k8)
              obtain ⟨m0, m1⟩ := x9.c2 (Below.refl _ _)
              have p0 := x9.free 0
              have p1 := x9.free 1
              have HG := Lib.hid ((x9.sets2 (.int .i64 a) (.int .i64 b)).c2 (Below.refl _ _))
              have HQ := Lib.hid (below_sets2 (g := w.heap.size) (x := .int .i64 a) (y := .int .i64 b) (B0.out.trans ((b4.trans (k8.mono b4.size)).mono hs0)) (Nat.le_refl _))
              clear x9
              go_wp2_with fail
              refine bodyPost_ret (v := .agg #[.int .i64 a, .int .i64 b]) (by simp [results, Try.results29, go_sem, HG.out.1, HG.out.2]) rfl ⟨?_, HQ.out⟩
              rw [HV2.out]
end Go.Proofs.Ythkigilegnjglaa
