/- Contract of the code's AddResult. Condition: integers of 64 bits; the slice has at most 2^20 elements, each team's at most 2^20. -/
import Derived.Test.YthkigilegnjglaaArMath
namespace Go.Proofs.Ythkigilegnjglaa
open Go.ChangeShapes Go.WideShapes Go.ChangeAt Go.RowKit
set_option maxRecDepth 100000
theorem addr_z (g k : Nat) : (⟨g, 0, none⟩ : Addr).add (k * 6) = ⟨g, k * 6, none⟩ := by
  simp [Addr.add]
  intro h; omega
set_option maxHeartbeats 16000000 in
theorem impAddResult_any {w : World} {A : Option Addr} {n c : Nat} {X : List Tm} {a b wi p q : Int} (hl : Hid (X.length = n)) (hn : n ≤ 1048576) (hs : Hid (∀ x ∈ X, x.met.length ≤ 1048576)) (hr : RdT w w.heap.size A X) (hok : Hid (∀ x ∈ X, x.ok)) (ha : Hid (I6 a)) (hb : Hid (I6 b)) :
    Calls Try.prog 33 #[.slice A n c, .int .i64 a, .int .i64 b, .int .i64 wi, .int .i64 p, .int .i64 q] w (fun e w' => ∃ v, e = .returned (.tuple #[v, .bool (arsB X a b wi p q)]) ∧ OwnT w' w.heap.size w'.heap.size v (arsR X a b wi p q) ∧ Below w.heap.size w w') := by
  go_enter Try.func33, Try.ntmps33
  go_wp2_with fail
  refine (teamPlacesOf_any hl (by omega) (Lib.hid fun x hx => (hok.out x hx).1) hr).mono ?_
  rintro e W3 ⟨K, rfl, hm, b3⟩
  have HR3 := Lib.hid ((hr.below b3).more b3.size)
  have HM3 := Lib.hid hm
  have HB3 := Lib.hid b3
  clear hm b3
  go_wp2_with fail
  refine (impAreTeams_any hl hn hs hok HR3.out).mono ?_
  rintro e W4 ⟨rfl, b4⟩
  have HM4 := Lib.hid (HM3.out.new b4)
  have HB4 := Lib.hid (HB3.out.trans (b4.mono HB3.out.size))
  have HR4 := Lib.hid ((HR3.out.below b4).more b4.size)
  have hwl := HB4.out.size
  clear b4
  cases hT : atB X with
  | false =>
    have HV := Lib.hid (ar_no (X := X) (a := a) (b := b) (wi := wi) (p := p) (q := q) (arOk_1 (by unfold twB; rw [hT]; rfl)))
    go_wp2_with fail
    refine (copyOfTeams_any hl hn hs HR4.out).mono ?_
    rintro e W5 ⟨v, rfl, how, b5⟩
    obtain ⟨A5, c5, rfl, _⟩ := how.rd (n := n) hl.out
    have HOW := Lib.hid how
    clear how
    go_wp2_with fail
    go_ret2
    exact ⟨_, by rw [HV.out.2]; rfl, by rw [HV.out.1]; exact HOW.out.wide hwl (Nat.le_refl _), HB4.out.trans (b5.mono hwl)⟩
  | true =>
    cases hA : (fndO X a).isSome with
    | false =>
      have HA := Lib.hid hA
      go_wp2_with fail
      refine (plHas_any HM4.out ha.out).mono ?_
      rintro e u ⟨rfl, rfl⟩
      rw [HA.out]
      have HV := Lib.hid (ar_no (X := X) (a := a) (b := b) (wi := wi) (p := p) (q := q) (arOk_1 (by unfold twB; rw [HA.out]; simp)))
      go_wp2_with fail
      refine (copyOfTeams_any hl hn hs HR4.out).mono ?_
      rintro e W5 ⟨v, rfl, how, b5⟩
      obtain ⟨A5, c5, rfl, _⟩ := how.rd (n := n) hl.out
      have HOW := Lib.hid how
      clear how
      go_wp2_with fail
      go_ret2
      exact ⟨_, by rw [HV.out.2]; rfl, by rw [HV.out.1]; exact HOW.out.wide hwl (Nat.le_refl _), HB4.out.trans (b5.mono hwl)⟩
    | true =>
      have HA := Lib.hid hA
      go_wp2_with fail
      refine (plHas_any HM4.out ha.out).mono ?_
      rintro e u ⟨rfl, rfl⟩
      rw [HA.out]
      go_wp2_with fail
      refine (plHas_any HM4.out hb.out).mono ?_
      rintro e u ⟨rfl, rfl⟩
      cases hB : (fndO X b).isSome with
      | false =>
        have HBB := Lib.hid hB
        have HV := Lib.hid (ar_no (X := X) (a := a) (b := b) (wi := wi) (p := p) (q := q) (arOk_1 (by unfold twB; rw [HBB.out]; simp)))
        go_wp2_with fail
        refine (copyOfTeams_any hl hn hs HR4.out).mono ?_
        rintro e W5 ⟨v, rfl, how, b5⟩
        obtain ⟨A5, c5, rfl, _⟩ := how.rd (n := n) hl.out
        have HOW := Lib.hid how
        clear how
        go_wp2_with fail
        go_ret2
        exact ⟨_, by rw [HV.out.2]; rfl, by rw [HV.out.1]; exact HOW.out.wide hwl (Nat.le_refl _), HB4.out.trans (b5.mono hwl)⟩
      | true =>
        have HTW := Lib.hid (show twB X a b = true by unfold twB; rw [hT, hA, hB]; rfl)
        have HT := Lib.hid hT
        clear hT hA hB
        by_cases hab : a = b
        · have dab : (a == b) = true := by simpa using hab
          have HAB := Lib.hid hab
          clear hab
          have HV := Lib.hid (ar_no (X := X) (a := a) (b := b) (wi := wi) (p := p) (q := q) (arOk_2 HAB.out))
          go_wp2_with fail
          refine (copyOfTeams_any hl hn hs HR4.out).mono ?_
          rintro e W5 ⟨v, rfl, how, b5⟩
          obtain ⟨A5, c5, rfl, _⟩ := how.rd (n := n) hl.out
          have HOW := Lib.hid how
          clear how
          go_wp2_with fail
          go_ret2
          exact ⟨_, by rw [HV.out.2]; rfl, by rw [HV.out.1]; exact HOW.out.wide hwl (Nat.le_refl _), HB4.out.trans (b5.mono hwl)⟩
        · have dab : (a == b) = false := by simpa using hab
          have HAB := Lib.hid hab
          clear hab
          go_wp2_with fail
          refine (inRange_any _ _ _ _).mono ?_
          rintro e u ⟨rfl, rfl⟩
          cases q1 : inr wi 1 2 with
          | false =>
            have Q1 := Lib.hid q1
            clear q1
            have HV := Lib.hid (ar_no (X := X) (a := a) (b := b) (wi := wi) (p := p) (q := q) (arOk_3 Q1.out))
            go_wp2_with fail
            refine (copyOfTeams_any hl hn hs HR4.out).mono ?_
            rintro e W5 ⟨v, rfl, how, b5⟩
            obtain ⟨A5, c5, rfl, _⟩ := how.rd (n := n) hl.out
            have HOW := Lib.hid how
            clear how
            go_wp2_with fail
            go_ret2
            exact ⟨_, by rw [HV.out.2]; rfl, by rw [HV.out.1]; exact HOW.out.wide hwl (Nat.le_refl _), HB4.out.trans (b5.mono hwl)⟩
          | true =>
            have Q1 := Lib.hid q1
            clear q1
            go_wp2_with fail
            refine (inRange_any _ _ _ _).mono ?_
            rintro e u ⟨rfl, rfl⟩
            cases q2 : inr p 0 1000 with
            | false =>
              have Q2 := Lib.hid q2
              clear q2
              have HV := Lib.hid (ar_no (X := X) (a := a) (b := b) (wi := wi) (p := p) (q := q) (arOk_4 Q2.out))
              go_wp2_with fail
              refine (copyOfTeams_any hl hn hs HR4.out).mono ?_
              rintro e W5 ⟨v, rfl, how, b5⟩
              obtain ⟨A5, c5, rfl, _⟩ := how.rd (n := n) hl.out
              have HOW := Lib.hid how
              clear how
              go_wp2_with fail
              go_ret2
              exact ⟨_, by rw [HV.out.2]; rfl, by rw [HV.out.1]; exact HOW.out.wide hwl (Nat.le_refl _), HB4.out.trans (b5.mono hwl)⟩
            | true =>
              have Q2 := Lib.hid q2
              clear q2
              go_wp2_with fail
              refine (inRange_any _ _ _ _).mono ?_
              rintro e u ⟨rfl, rfl⟩
              cases q3 : inr q 0 1000 with
              | false =>
                have Q3 := Lib.hid q3
                clear q3
                have HV := Lib.hid (ar_no (X := X) (a := a) (b := b) (wi := wi) (p := p) (q := q) (arOk_5 Q3.out))
                go_wp2_with fail
                refine (copyOfTeams_any hl hn hs HR4.out).mono ?_
                rintro e W5 ⟨v, rfl, how, b5⟩
                obtain ⟨A5, c5, rfl, _⟩ := how.rd (n := n) hl.out
                have HOW := Lib.hid how
                clear how
                go_wp2_with fail
                go_ret2
                exact ⟨_, by rw [HV.out.2]; rfl, by rw [HV.out.1]; exact HOW.out.wide hwl (Nat.le_refl _), HB4.out.trans (b5.mono hwl)⟩
              | true =>
                have HOK := Lib.hid (arOk_y (X := X) HTW.out HAB.out Q1.out Q2.out q3)
                have hq3 := inr_b q3
                have hp3 := inr_b Q2.out
                have hw3 := inr_b Q1.out
                obtain ⟨_, i, j, hi, hj, x, y, hx, hy, hxa, hyb⟩ := tw_parts HTW.out
                have HIJ : i ≠ j := fun e => HAB.out (by subst e; exact tw_ij hi hj)
                have HZ := Lib.hid (ar_z (wi := wi) (p := p) (q := q) hi hj hx hy)
                have HX := Lib.hid hx
                have HY := Lib.hid hy
                have HI := Lib.hid hi
                have HJ := Lib.hid hj
                have HBX := Lib.hid (te_b HT.out hx)
                have HBY := Lib.hid (te_b HT.out hy)
                obtain ⟨hil, hxe⟩ := List.getElem?_eq_some_iff.1 hx
                obtain ⟨hjl, hye⟩ := List.getElem?_eq_some_iff.1 hy
                have hin : i < n := by rw [← hl.out]; exact hil
                have hjn : j < n := by rw [← hl.out]; exact hjl
                have HXE := Lib.hid hxe
                have i0 : (0 : Int) ≤ (i : Int) := by omega
                have i1 : (i : Int) < (n : Int) := by omega
                have j0 : (0 : Int) ≤ (j : Int) := by omega
                have j1 : (j : Int) < (n : Int) := by omega
                have HXO := Lib.hid (hok.out x (List.mem_of_getElem? hx))
                have HYO := Lib.hid (hok.out y (List.mem_of_getElem? hy))
                clear q3 hxa hyb hx hy hi hj hxe hye
                go_wp2_with fail
                refine (copyOfTeams_any hl hn hs HR4.out).mono ?_
                rintro e W5 ⟨v, rfl, how, b5⟩
                obtain ⟨g, c5, rfl, hg1, hg2, hg3, _, _, _⟩ := how.base hl.out (by omega)
                have HB5 := Lib.hid (HB4.out.trans (b5.mono hwl))
                have hm5 := HM4.out.new b5
                have HM5 := Lib.hid hm5
                have hbl : w.heap.size < W4.heap.size := HM4.out.lt
                have lk1 := IM.get' (w := W5) hm5 tp_under ha.out HI.out
                have hadi := addr_z g i
                have hadj := addr_z g j
                obtain ⟨⟨c0, c1, c2, c3, c4⟩, hfz, _, _, _, _⟩ := how.cells hl.out HX.out
                have ff := hfz (i * 6 + 4)
                have w1 := IntWalk.i64_in (x.firsts + 1) (by have := HBX.out; omega)
                have hs5 := b5.size
                have how6 := how.put4 hl.out hil hs5 (x.firsts + 1)
                rw [HXE.out] at how6
                have HOW6 := Lib.hid how6
                have HB5' := Lib.hid b5
                clear how how6 b5 hm5 hfz c0 c1 c2 c3
                go_upto_region 6 with fail
                obtain ⟨W6, hW6⟩ : ∃ u, W5.setCell ⟨g, i * 6 + 4, none⟩ (.int .i64 (x.firsts + 1)) = u := ⟨_, rfl⟩
                have hs6 : W6.heap.size = W5.heap.size := by rw [← hW6]; simp [World.setCell]
                have hb6 : Below W4.heap.size W4 W6 := by rw [← hW6]; exact HB5'.out.setCell hg1 _
                have how6 := HOW6.out
                rw [hW6, ← hs6] at how6
                have HW6 := Lib.hid hW6
                rw [HW6.out]
                have hm6 := HM4.out.new hb6
                have lk6 := IM.get' (w := W6) hm6 tp_under ha.out HI.out
                have hl6 : (X.set i { x with firsts := x.firsts + 1 }).length = n := by rw [List.length_set]; exact hl.out
                have hx6 : (X.set i { x with firsts := x.firsts + 1 })[i]? = some { x with firsts := x.firsts + 1 } := List.getElem?_set_self hil
                have HO6 := Lib.hid how6
                have HBB6 := Lib.hid hb6
                have hs46 := hb6.size
                clear hW6 lk1 c4 ff how6 hm6 hb6
                rcases (show wi = 1 ∨ wi = 2 by omega) with rfl | rfl
                · go_wp2_with fail
                  refine (addDebate_any (m := b) (q := p) (won := true) HO6.out (Lib.hid hl6) (Lib.hid hx6) hs46 (Nat.le_refl _) (Lib.hid (by show x.met.length ≤ 1048576; have := HBX.out; omega)) (Lib.hid (by show 0 ≤ x.pts ∧ x.pts ≤ 1000000; have := HBX.out; omega)) (Lib.hid (by show 0 ≤ x.wins ∧ x.wins ≤ 1000000; have := HBX.out; omega)) (by omega) (by omega)).mono ?_
                  rintro e W7 ⟨rfl, how7, b7⟩
                  rw [set_idem] at how7
                  obtain ⟨x', hx'⟩ : ∃ x', adT { x with firsts := x.firsts + 1 } b true p = x' := ⟨_, rfl⟩
                  rw [hx'] at how7
                  have HXN := Lib.hid hx'
                  have hl7 : (X.set i x').length = n := by rw [List.length_set]; exact hl.out
                  have hy7 : (X.set i x')[j]? = some y := by rw [List.getElem?_set_ne HIJ]; exact HY.out
                  have HB7 := Lib.hid (HBB6.out.trans b7)
                  have hs7 := HB7.out.size
                  have lk7 := IM.get' (w := W7) (HM4.out.new HB7.out) tp_under hb.out HJ.out
                  have HO7 := Lib.hid how7
                  clear hx' how7 b7 lk6
                  go_wp2_with fail
                  refine (addDebate_any (m := a) (q := q) (won := false) HO7.out (Lib.hid hl7) (Lib.hid hy7) hs7 (Nat.le_refl _) (Lib.hid (by have := HBY.out; omega)) (Lib.hid (by have := HBY.out; omega)) (Lib.hid (by have := HBY.out; omega)) (by omega) (by omega)).mono ?_
                  rintro e W8 ⟨rfl, how8, b8⟩
                  obtain ⟨Z, hZ⟩ : ∃ Z, (X.set i x').set j (adT y a false q) = Z := ⟨_, rfl⟩
                  have HZZ := Lib.hid (show arsZ X a b 1 p q = Z by rw [HZ.out, ← hZ, ← HXN.out]; rfl)
                  have hzl : Z.length = n := by rw [← hZ, List.length_set]; exact hl7
                  have hmem : ∀ z ∈ Z, z ∈ X ∨ z = x' ∨ z = adT y a false q := fun z hz => by
                    rw [← hZ] at hz
                    rcases List.mem_or_eq_of_mem_set hz with hz | hz
                    · rcases List.mem_or_eq_of_mem_set hz with hz | hz
                      · exact .inl hz
                      · exact .inr (.inl hz)
                    · exact .inr (.inr hz)
                  have HZS := Lib.hid (show ∀ z ∈ Z, z.met.length ≤ 1048576 from fun z hz => by
                    rcases hmem z hz with h | h | h
                    · exact hs.out z h
                    · rw [h, ← HXN.out]; show (x.met ++ [b]).length ≤ _; have := HBX.out; simp; omega
                    · rw [h]; show (y.met ++ [a]).length ≤ _; have := HBY.out; simp; omega)
                  have HZO := Lib.hid (show ∀ z ∈ Z, z.ok from fun z hz => by
                    rcases hmem z hz with h | h | h
                    · exact hok.out z h
                    · rw [h, ← HXN.out]
                      obtain ⟨o1, o2, o3, o4, o5, o6⟩ := HXO.out
                      exact adT_ok ⟨o1, o2, o3, o4, i6_small (by have := HBX.out; show _ ≤ x.firsts + 1; omega) (by have := HBX.out; show x.firsts + 1 ≤ _; omega), o6⟩ hb.out (i6_small (by have := HBX.out; show _ ≤ x.pts + p; omega) (by have := HBX.out; show x.pts + p ≤ _; omega)) (i6_small (by have := HBX.out; show _ ≤ x.wins + 1; omega) (by have := HBX.out; show x.wins + 1 ≤ _; omega))
                    · rw [h]
                      exact adT_ok HYO.out ha.out (i6_small (by have := HBY.out; omega) (by have := HBY.out; omega)) (i6_small (by have := HBY.out; omega) (by have := HBY.out; omega)))
                  rw [hZ] at how8
                  have HO8 := Lib.hid how8
                  have HB8 := Lib.hid (HB7.out.trans (b8.mono (Nat.le_refl _)))
                  have hs8 := HB8.out.size
                  have HZL := Lib.hid hzl
                  clear hZ how8 b8 hmem hzl lk7
                  go_wp2_with fail
                  refine (impAreTeams_any HZL hn HZS HZO (HO8.out.rd'.more (Nat.le_refl _))).mono ?_
                  rintro e W9 ⟨rfl, b9⟩
                  have HB9 := Lib.hid (HB8.out.trans (b9.mono hs8))
                  have hs9 := HB9.out.size
                  cases hTZ : atB Z with
                  | true =>
                    have HV := Lib.hid (ar_yes HOK.out HZZ.out hTZ)
                    have HO9 := Lib.hid ((HO8.out.new b9).wide (Nat.le_refl _) b9.size)
                    clear hTZ b9
                    go_wp2_with fail
                    go_ret2
                    exact ⟨_, by rw [HV.out.2]; rfl, by rw [HV.out.1]; exact HO9.out.wide hwl (Nat.le_refl _), HB4.out.trans (HB9.out.mono hwl)⟩
                  | false =>
                    have HV := Lib.hid (ar_bad HOK.out HZZ.out hTZ)
                    clear hTZ b9
                    go_wp2_with fail
                    refine (copyOfTeams_any hl hn hs ((HR4.out.below HB9.out).more hs9)).mono ?_
                    rintro e W10 ⟨v, rfl, how, b10⟩
                    obtain ⟨A5, c6, rfl, _⟩ := how.rd (n := n) hl.out
                    have HOW := Lib.hid how
                    clear how
                    go_wp2_with fail
                    go_ret2
                    exact ⟨_, by rw [HV.out.2]; rfl, by rw [HV.out.1]; exact HOW.out.wide (by omega) (Nat.le_refl _), HB4.out.trans ((HB9.out.trans (b10.mono hs9)).mono hwl)⟩
                
                · go_wp2_with fail
                  refine (addDebate_any (m := b) (q := p) (won := false) HO6.out (Lib.hid hl6) (Lib.hid hx6) hs46 (Nat.le_refl _) (Lib.hid (by show x.met.length ≤ 1048576; have := HBX.out; omega)) (Lib.hid (by show 0 ≤ x.pts ∧ x.pts ≤ 1000000; have := HBX.out; omega)) (Lib.hid (by show 0 ≤ x.wins ∧ x.wins ≤ 1000000; have := HBX.out; omega)) (by omega) (by omega)).mono ?_
                  rintro e W7 ⟨rfl, how7, b7⟩
                  rw [set_idem] at how7
                  obtain ⟨x', hx'⟩ : ∃ x', adT { x with firsts := x.firsts + 1 } b false p = x' := ⟨_, rfl⟩
                  rw [hx'] at how7
                  have HXN := Lib.hid hx'
                  have hl7 : (X.set i x').length = n := by rw [List.length_set]; exact hl.out
                  have hy7 : (X.set i x')[j]? = some y := by rw [List.getElem?_set_ne HIJ]; exact HY.out
                  have HB7 := Lib.hid (HBB6.out.trans b7)
                  have hs7 := HB7.out.size
                  have lk7 := IM.get' (w := W7) (HM4.out.new HB7.out) tp_under hb.out HJ.out
                  have HO7 := Lib.hid how7
                  clear hx' how7 b7 lk6
                  go_wp2_with fail
                  refine (addDebate_any (m := a) (q := q) (won := true) HO7.out (Lib.hid hl7) (Lib.hid hy7) hs7 (Nat.le_refl _) (Lib.hid (by have := HBY.out; omega)) (Lib.hid (by have := HBY.out; omega)) (Lib.hid (by have := HBY.out; omega)) (by omega) (by omega)).mono ?_
                  rintro e W8 ⟨rfl, how8, b8⟩
                  obtain ⟨Z, hZ⟩ : ∃ Z, (X.set i x').set j (adT y a true q) = Z := ⟨_, rfl⟩
                  have HZZ := Lib.hid (show arsZ X a b 2 p q = Z by rw [HZ.out, ← hZ, ← HXN.out]; rfl)
                  have hzl : Z.length = n := by rw [← hZ, List.length_set]; exact hl7
                  have hmem : ∀ z ∈ Z, z ∈ X ∨ z = x' ∨ z = adT y a true q := fun z hz => by
                    rw [← hZ] at hz
                    rcases List.mem_or_eq_of_mem_set hz with hz | hz
                    · rcases List.mem_or_eq_of_mem_set hz with hz | hz
                      · exact .inl hz
                      · exact .inr (.inl hz)
                    · exact .inr (.inr hz)
                  have HZS := Lib.hid (show ∀ z ∈ Z, z.met.length ≤ 1048576 from fun z hz => by
                    rcases hmem z hz with h | h | h
                    · exact hs.out z h
                    · rw [h, ← HXN.out]; show (x.met ++ [b]).length ≤ _; have := HBX.out; simp; omega
                    · rw [h]; show (y.met ++ [a]).length ≤ _; have := HBY.out; simp; omega)
                  have HZO := Lib.hid (show ∀ z ∈ Z, z.ok from fun z hz => by
                    rcases hmem z hz with h | h | h
                    · exact hok.out z h
                    · rw [h, ← HXN.out]
                      obtain ⟨o1, o2, o3, o4, o5, o6⟩ := HXO.out
                      exact adT_ok ⟨o1, o2, o3, o4, i6_small (by have := HBX.out; show _ ≤ x.firsts + 1; omega) (by have := HBX.out; show x.firsts + 1 ≤ _; omega), o6⟩ hb.out (i6_small (by have := HBX.out; show _ ≤ x.pts + p; omega) (by have := HBX.out; show x.pts + p ≤ _; omega)) (i6_small (by have := HBX.out; show _ ≤ x.wins + 1; omega) (by have := HBX.out; show x.wins + 1 ≤ _; omega))
                    · rw [h]
                      exact adT_ok HYO.out ha.out (i6_small (by have := HBY.out; omega) (by have := HBY.out; omega)) (i6_small (by have := HBY.out; omega) (by have := HBY.out; omega)))
                  rw [hZ] at how8
                  have HO8 := Lib.hid how8
                  have HB8 := Lib.hid (HB7.out.trans (b8.mono (Nat.le_refl _)))
                  have hs8 := HB8.out.size
                  have HZL := Lib.hid hzl
                  clear hZ how8 b8 hmem hzl lk7
                  go_wp2_with fail
                  refine (impAreTeams_any HZL hn HZS HZO (HO8.out.rd'.more (Nat.le_refl _))).mono ?_
                  rintro e W9 ⟨rfl, b9⟩
                  have HB9 := Lib.hid (HB8.out.trans (b9.mono hs8))
                  have hs9 := HB9.out.size
                  cases hTZ : atB Z with
                  | true =>
                    have HV := Lib.hid (ar_yes HOK.out HZZ.out hTZ)
                    have HO9 := Lib.hid ((HO8.out.new b9).wide (Nat.le_refl _) b9.size)
                    clear hTZ b9
                    go_wp2_with fail
                    go_ret2
                    exact ⟨_, by rw [HV.out.2]; rfl, by rw [HV.out.1]; exact HO9.out.wide hwl (Nat.le_refl _), HB4.out.trans (HB9.out.mono hwl)⟩
                  | false =>
                    have HV := Lib.hid (ar_bad HOK.out HZZ.out hTZ)
                    clear hTZ b9
                    go_wp2_with fail
                    refine (copyOfTeams_any hl hn hs ((HR4.out.below HB9.out).more hs9)).mono ?_
                    rintro e W10 ⟨v, rfl, how, b10⟩
                    obtain ⟨A5, c6, rfl, _⟩ := how.rd (n := n) hl.out
                    have HOW := Lib.hid how
                    clear how
                    go_wp2_with fail
                    go_ret2
                    exact ⟨_, by rw [HV.out.2]; rfl, by rw [HV.out.1]; exact HOW.out.wide (by omega) (Nat.le_refl _), HB4.out.trans ((HB9.out.trans (b10.mono hs9)).mono hwl)⟩
end Go.Proofs.Ythkigilegnjglaa
