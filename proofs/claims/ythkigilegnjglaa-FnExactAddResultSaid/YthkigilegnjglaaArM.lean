/- Contract of the model's AddResult. Condition: the slice has at most 2^20 elements, each team's at most 2^20. -/
import Derived.Test.YthkigilegnjglaaArC
import Derived.Deep.DeepCutAuto
namespace Go.Proofs.Ythkigilegnjglaa
open Go.ChangeShapes Go.WideShapes Go.ChangeAt Go.RowKit
set_option maxRecDepth 100000
section
variable {w w' : World} {lo hi hi' g n c k : Nat} {X : List Tm} {x : Tm} {u u' : Value} {ys : List Int} {a b : Nat}
theorem OwnT.px2 (h : OwnT w lo hi (.slice (some ⟨g, 0, none⟩) n c) X) (hn : X.length = n) (hx : X[k]? = some x) (hlo : lo ≤ hi) (v : Int) : OwnT (w.setCell ⟨g, k * 6 + 2, none⟩ (.int .i64 v)) lo hi (.slice (some ⟨g, 0, none⟩) n c) (X.set k { x with wins := v }) := by
  obtain ⟨hk, rfl⟩ := List.getElem?_eq_some_iff.1 hx
  exact h.put2 hn hk hlo v
theorem OwnT.px3 (h : OwnT w lo hi (.slice (some ⟨g, 0, none⟩) n c) X) (hn : X.length = n) (hx : X[k]? = some x) (hlo : lo ≤ hi) (v : Int) : OwnT (w.setCell ⟨g, k * 6 + 3, none⟩ (.int .i64 v)) lo hi (.slice (some ⟨g, 0, none⟩) n c) (X.set k { x with pts := v }) := by
  obtain ⟨hk, rfl⟩ := List.getElem?_eq_some_iff.1 hx
  exact h.put3 hn hk hlo v
theorem OwnT.px4 (h : OwnT w lo hi (.slice (some ⟨g, 0, none⟩) n c) X) (hn : X.length = n) (hx : X[k]? = some x) (hlo : lo ≤ hi) (v : Int) : OwnT (w.setCell ⟨g, k * 6 + 4, none⟩ (.int .i64 v)) lo hi (.slice (some ⟨g, 0, none⟩) n c) (X.set k { x with firsts := v }) := by
  obtain ⟨hk, rfl⟩ := List.getElem?_eq_some_iff.1 hx
  exact h.put4 hn hk hlo v
theorem OwnT.cx5 (h : OwnT w lo hi (.slice (some ⟨g, 0, none⟩) n c) X) (hn : X.length = n) (hx : X[k]? = some x) : ∃ u : Value, w.cell? ⟨g, k * 6 + 5, none⟩ = some u ∧ Row w lo hi 3 u (ivs x.met) ∧ u.ownBlock ≠ some g := by
  obtain ⟨hk, rfl⟩ := List.getElem?_eq_some_iff.1 hx
  exact h.cell5 hn hk
theorem OwnT.gx (h : OwnT w lo hi (.slice (some ⟨g, 0, none⟩) n c) X) (hn : X.length = n) (hx : X[k]? = some x) (hlo : lo ≤ hi) (hhi : hi ≤ w.heap.size) (hc : w.cell? ⟨g, k * 6 + 5, none⟩ = some u) (hr : Row w' a b 3 u' (ivs ys)) (hb : b ≤ hi') (hh : hi ≤ hi')
    (hk1 : ∀ x, x < w.heap.size → u.ownBlock ≠ some x → w'.heap[x]? = w.heap[x]?) (hk2 : ∀ x, u'.ownBlock = some x → u.ownBlock = some x ∨ w.heap.size ≤ x) :
    OwnT (w'.setCell ⟨g, k * 6 + 5, none⟩ u') lo hi' (.slice (some ⟨g, 0, none⟩) n c) (X.set k { x with met := ys }) := by
  obtain ⟨hk, rfl⟩ := List.getElem?_eq_some_iff.1 hx
  exact h.grow hn hk hlo hhi hc hr hb hh hk1 hk2
end
set_option maxHeartbeats 16000000 in
theorem specAddResult_any {w : World} {A : Option Addr} {n c : Nat} {X : List Tm} {a b wi p q : Int} (hl : Hid (X.length = n)) (hn : n ≤ 1048576) (hs : Hid (∀ x ∈ X, x.met.length ≤ 1048576)) (hr : RdT w w.heap.size A X) :
    Calls Try.prog 32 #[.slice A n c, .int .i64 a, .int .i64 b, .int .i64 wi, .int .i64 p, .int .i64 q] w (fun e w' => ∃ v, e = .returned (.tuple #[v, .bool (arsB X a b wi p q)]) ∧ OwnT w' w.heap.size w'.heap.size v (arsR X a b wi p q) ∧ Below w.heap.size w w') := by
  obtain ⟨i0', hi0, hz0, hz1, hz2⟩ := info_parts IntS_info
  obtain ⟨fa, hfa⟩ : ∃ v, fndI X a = v := ⟨_, rfl⟩
  obtain ⟨fb, hfb⟩ : ∃ v, fndI X b = v := ⟨_, rfl⟩
  have HFA := Lib.hid hfa
  have HFB := Lib.hid hfb
  clear hfa hfb
  go_enter Try.func32, Try.ntmps32
  go_wp2_with fail
  refine (l19Copy_any hl hn hs hr).mono ?_
  rintro e W3 ⟨v, rfl, how, b3⟩
  obtain ⟨A5, c5, hv, _⟩ := how.rd (n := n) hl.out
  subst hv
  have HO3 := Lib.hid how
  have HB3 := Lib.hid b3
  have hs3 := b3.size
  have HR3 := Lib.hid ((hr.below b3).more b3.size)
  clear how b3

  cases hT : atB X with
  | false =>
    have HV := Lib.hid (ar_no (X := X) (a := a) (b := b) (wi := wi) (p := p) (q := q) (arOk_1 (by unfold twB; rw [hT]; rfl)))
    have HT := Lib.hid hT
    clear hT
    go_wp2_with fail
    refine (specFindTeam_any hl (by omega) HR3.out).mono ?_
    rintro e u1 ⟨rfl, rfl⟩
    rw [HFA.out]
    go_wp2_with fail
    refine (specFindTeam_any hl (by omega) HR3.out).mono ?_
    rintro e u1 ⟨rfl, rfl⟩
    rw [HFB.out]
    go_wp2_with fail
    refine (specAreTeams_any hl hn hs HR3.out).mono ?_
    rintro e W4 ⟨rfl, b4⟩
    rw [HT.out]
    have HO4 := Lib.hid ((HO3.out.new b4).wide (Nat.le_refl _) b4.size)
    have HB4 := Lib.hid (HB3.out.trans (b4.mono hs3))
    have HR4 := Lib.hid ((HR3.out.below b4).more b4.size)
    have hs4 := HB4.out.size
    clear b4
    go_wp2_with fail
    go_ret2
    exact ⟨_, by rw [HV.out.2]; rfl, by rw [HV.out.1]; exact HO4.out, HB4.out⟩
  | true =>
    cases hA : fndO X a with
    | none =>
      have HV := Lib.hid (ar_no (X := X) (a := a) (b := b) (wi := wi) (p := p) (q := q) (arOk_1 (by unfold twB; rw [hA]; simp)))
      have HT := Lib.hid hT
      have HA := Lib.hid (fndI_none hA)
      clear hT hA
      go_wp2_with fail
      refine (specFindTeam_any hl (by omega) HR3.out).mono ?_
      rintro e u1 ⟨rfl, rfl⟩
      rw [HA.out]
      go_wp2_with fail
      refine (specFindTeam_any hl (by omega) HR3.out).mono ?_
      rintro e u1 ⟨rfl, rfl⟩
      rw [HFB.out]
      go_wp2_with fail
      refine (specAreTeams_any hl hn hs HR3.out).mono ?_
      rintro e W4 ⟨rfl, b4⟩
      rw [HT.out]
      have HO4 := Lib.hid ((HO3.out.new b4).wide (Nat.le_refl _) b4.size)
      have HB4 := Lib.hid (HB3.out.trans (b4.mono hs3))
      have HR4 := Lib.hid ((HR3.out.below b4).more b4.size)
      have hs4 := HB4.out.size
      clear b4
      go_wp2_with fail
      go_ret2
      exact ⟨_, by rw [HV.out.2]; rfl, by rw [HV.out.1]; exact HO4.out, HB4.out⟩
    | some v =>
      cases hB : fndO X b with
      | none =>
        have HV := Lib.hid (ar_no (X := X) (a := a) (b := b) (wi := wi) (p := p) (q := q) (arOk_1 (by unfold twB; rw [hB]; simp)))
        have HT := Lib.hid hT
        have HA := Lib.hid (fndI_some hA)
        have HB := Lib.hid (fndI_none hB)
        obtain ⟨i, rfl, hi, _, _⟩ := fndO_some hA
        have d1 : decide ((i : Int) < 0) = false := decide_eq_false (by omega)
        clear hT hA hB
        go_wp2_with fail
        refine (specFindTeam_any hl (by omega) HR3.out).mono ?_
        rintro e u1 ⟨rfl, rfl⟩
        rw [HA.out]
        go_wp2_with fail
        refine (specFindTeam_any hl (by omega) HR3.out).mono ?_
        rintro e u1 ⟨rfl, rfl⟩
        rw [HB.out]
        go_wp2_with fail
        refine (specAreTeams_any hl hn hs HR3.out).mono ?_
        rintro e W4 ⟨rfl, b4⟩
        rw [HT.out]
        have HO4 := Lib.hid ((HO3.out.new b4).wide (Nat.le_refl _) b4.size)
        have HB4 := Lib.hid (HB3.out.trans (b4.mono hs3))
        have HR4 := Lib.hid ((HR3.out.below b4).more b4.size)
        have hs4 := HB4.out.size
        clear b4
        go_wp2_with fail
        go_ret2
        exact ⟨_, by rw [HV.out.2]; rfl, by rw [HV.out.1]; exact HO4.out, HB4.out⟩
      | some v' =>
        have htw : twB X a b = true := by unfold twB; rw [hT, hA, hB]; rfl
        have HTW := Lib.hid htw
        have HT := Lib.hid hT
        have HA := Lib.hid (fndI_some hA)
        have HB := Lib.hid (fndI_some hB)
        obtain ⟨i, rfl, hil, hie, _⟩ := fndO_some hA
        obtain ⟨j, rfl, hjl, hje, _⟩ := fndO_some hB
        have d1 : decide ((i : Int) < 0) = false := decide_eq_false (by omega)
        have d2 : decide ((j : Int) < 0) = false := decide_eq_false (by omega)
        clear hT htw hie hje
        by_cases hij : i = j
        · have hab : a = b := by subst hij; exact tw_ij hA hB
          have HV := Lib.hid (ar_no (X := X) (a := a) (b := b) (wi := wi) (p := p) (q := q) (arOk_2 hab))
          have dij : ((i : Int) == (j : Int)) = true := by simp [hij]
          clear hA hB hij hab
          go_wp2_with fail
          refine (specFindTeam_any hl (by omega) HR3.out).mono ?_
          rintro e u1 ⟨rfl, rfl⟩
          rw [HA.out]
          go_wp2_with fail
          refine (specFindTeam_any hl (by omega) HR3.out).mono ?_
          rintro e u1 ⟨rfl, rfl⟩
          rw [HB.out]
          go_wp2_with fail
          refine (specAreTeams_any hl hn hs HR3.out).mono ?_
          rintro e W4 ⟨rfl, b4⟩
          rw [HT.out]
          have HO4 := Lib.hid ((HO3.out.new b4).wide (Nat.le_refl _) b4.size)
          have HB4 := Lib.hid (HB3.out.trans (b4.mono hs3))
          have HR4 := Lib.hid ((HR3.out.below b4).more b4.size)
          have hs4 := HB4.out.size
          clear b4
          go_wp2_with fail
          go_ret2
          exact ⟨_, by rw [HV.out.2]; rfl, by rw [HV.out.1]; exact HO4.out, HB4.out⟩
        · have hab : a ≠ b := fun e => by
            subst e
            rw [hA] at hB
            injection hB with hB
            omega
          have dij : ((i : Int) == (j : Int)) = false := by simp; omega
          have HAB := Lib.hid hab
          have HZ := Lib.hid (ar_z (wi := wi) (p := p) (q := q) hA hB (List.getElem?_eq_getElem hil) (List.getElem?_eq_getElem hjl))
          have HX := Lib.hid (List.getElem?_eq_getElem hil)
          have HY := Lib.hid (List.getElem?_eq_getElem hjl)
          obtain ⟨x, hxe⟩ : ∃ x, x = X[i] := ⟨_, rfl⟩
          obtain ⟨y, hye⟩ : ∃ y, y = X[j] := ⟨_, rfl⟩
          rw [← hxe] at HX HZ
          rw [← hye] at HY HZ
          have HBX := Lib.hid (te_b HT.out HX.out)
          have HBY := Lib.hid (te_b HT.out HY.out)
          have hin : i < n := by rw [← hl.out]; exact hil
          have hjn : j < n := by rw [← hl.out]; exact hjl
          have i0 : (0 : Int) ≤ (i : Int) := by omega
          have i1 : (i : Int) < (n : Int) := by omega
          have j0 : (0 : Int) ≤ (j : Int) := by omega
          have j1 : (j : Int) < (n : Int) := by omega
          have HIJ := Lib.hid (show i ≠ j from hij)
          have HJI := Lib.hid (show j ≠ i from fun e => hij e.symm)
          clear hA hB hij hab hxe hye
          go_wp2_with fail
          refine (specFindTeam_any hl (by omega) HR3.out).mono ?_
          rintro e u1 ⟨rfl, rfl⟩
          rw [HA.out]
          go_wp2_with fail
          refine (specFindTeam_any hl (by omega) HR3.out).mono ?_
          rintro e u1 ⟨rfl, rfl⟩
          rw [HB.out]
          go_wp2_with fail
          refine (specAreTeams_any hl hn hs HR3.out).mono ?_
          rintro e W4 ⟨rfl, b4⟩
          rw [HT.out]
          have HO4 := Lib.hid ((HO3.out.new b4).wide (Nat.le_refl _) b4.size)
          have HB4 := Lib.hid (HB3.out.trans (b4.mono hs3))
          have HR4 := Lib.hid ((HR3.out.below b4).more b4.size)
          have hs4 := HB4.out.size
          clear b4
          go_wp2_with fail
          refine (l1In_any _ _ _ _).mono ?_
          rintro e u ⟨rfl, rfl⟩
          cases q1 : inr wi 1 2 with
          | false =>
            have HV := Lib.hid (ar_no (X := X) (a := a) (b := b) (wi := wi) (p := p) (q := q) (arOk_3 q1))
            clear q1
            go_wp2_with fail
            go_ret2
            exact ⟨_, by rw [HV.out.2]; rfl, by rw [HV.out.1]; exact HO4.out, HB4.out⟩
          | true =>
            have Q1 := Lib.hid q1
            clear q1
            go_wp2_with fail
            refine (l1In_any _ _ _ _).mono ?_
            rintro e u ⟨rfl, rfl⟩
            cases q2 : inr p 0 1000 with
            | false =>
              have HV := Lib.hid (ar_no (X := X) (a := a) (b := b) (wi := wi) (p := p) (q := q) (arOk_4 q2))
              clear q2
              go_wp2_with fail
              go_ret2
              exact ⟨_, by rw [HV.out.2]; rfl, by rw [HV.out.1]; exact HO4.out, HB4.out⟩
            | true =>
              have Q2 := Lib.hid q2
              clear q2
              go_wp2_with fail
              refine (l1In_any _ _ _ _).mono ?_
              rintro e u ⟨rfl, rfl⟩
              cases q3 : inr q 0 1000 with
              | false =>
                have HV := Lib.hid (ar_no (X := X) (a := a) (b := b) (wi := wi) (p := p) (q := q) (arOk_5 q3))
                clear q3
                go_wp2_with fail
                go_ret2
                exact ⟨_, by rw [HV.out.2]; rfl, by rw [HV.out.1]; exact HO4.out, HB4.out⟩
              | true =>
                have HOK := Lib.hid (arOk_y (X := X) HTW.out HAB.out Q1.out Q2.out q3)
                have hq3 := inr_b q3
                have hp3 := inr_b Q2.out
                have hw3 := inr_b Q1.out
                obtain ⟨g, c6, hv, hg1, hg2, hg3, _, _, _⟩ := HO4.out.base hl.out (by omega)
                injection hv with e1 _ e3
                subst e1
                subst e3
                have hadi := addr_z g i
                have hadj := addr_z g j
                have HL0 := Lib.hid hl.out
                have hwg : w.heap.size ≤ g := hg1
                clear q3 hg1 hg2 hg3
                obtain ⟨u1, hc5, hrow5, hne⟩ := HO4.out.cx5 HL0.out HX.out
                obtain ⟨_, hfz, _, _, hgw, _⟩ := HO4.out.cells HL0.out HX.out
                obtain ⟨m1, hm⟩ : ∃ m, x.met.length = m := ⟨_, rfl⟩
                have HM1 := Lib.hid hm
                obtain ⟨A1, d1, rfl, _, _, _⟩ := hrow5.rd (n := m1) (by rw [ivs_len, hm])
                have hb1 := alloc_m W4 (Obj.cells #[Value.int .i64 b] 3)
                have HROW1 := Lib.hid (hrow5.new hb1)
                have HMADE1 := Lib.hid (show Rd (W4.alloc (Obj.cells #[Value.int .i64 b] 3)) (W4.heap.size + 1) (some ⟨W4.heap.size, 0, none⟩) [.int .i64 b] from Rd.made W4 #[Value.int .i64 b] 3)
                have LL1 := Lib.hid (show (ivs x.met).length + 1 ≤ maxLen ∧ ((ivs x.met).length + 1) * 8 ≤ 140737488355328 by rw [ivs_len]; have := HBX.out; unfold maxLen; omega)
                have hl11 : w.heap.size ≤ (W4.alloc (Obj.cells #[Value.int .i64 b] 3)).heap.size := by have := HB4.out.size; simp; omega
                have hcw := nwc5 hb1 hc5
                have HC51 := Lib.hid hc5
                have HB11 := Lib.hid hb1
                have HNE1 := Lib.hid hne
                have HS11 := Lib.hid (show (W4.alloc (Obj.cells #[Value.int .i64 b] 3)).heap.size = W4.heap.size + 1 by simp)
                have HFZ1 := Lib.hid hfz
                clear hrow5 hm hb1 hfz hne
                go_upto_region 7 with (
                  at_builtin
                  refine wpList_appD rfl (.tmp 63) (.tmp 65) 45 rfl 3 i0' _ 8 Try.underlying45 hi0 hz0 hz1 hz2 rfl (v := .slice A1 m1 d1) (ad := ⟨W4.heap.size, 0, none⟩) (m := 1) (c := 1) rfl rfl HROW1.out rfl HMADE1.out (by simp [Value.oneCell']) LL1.out.1 LL1.out.2 hl11 ?_
                  intro v9 w9 hrow9 hsz9 hb9 hk9 ho9
                  rw [← ivs_one] at hrow9
                  obtain ⟨E1, f1, rfl, _, _, _⟩ := hrow9.rd (n := m1 + 1) (by rw [ivs_len, List.length_append, HM1.out]; rfl)
                  have hg9 : w9.heap[g]? = W4.heap[g]? := (hk9 g (by rw [HS11.out]; omega) HNE1.out).trans (HB11.out.block g hgw)
                  have s5 : w9.cell? ⟨g, i * 6 + 5, none⟩ = some (.slice A1 m1 d1) := (cell_same (p := ⟨g, i * 6 + 5, none⟩) hg9).trans HC51.out
                  have f5 : w9.frozen? ⟨g, i * 6 + 5, none⟩ = false := (frozen_same hg9).trans (HFZ1.out _)
                  have hw9 : W4.heap.size ≤ w9.heap.size := Nat.le_trans (HB11.out).size hsz9
                  have hbl9 : Below w.heap.size w w9 := (HB4.out.trans (HB11.out.mono HB4.out.size)).trans hb9
                  have how9 := Lib.hid (OwnT.gx (ys := x.met ++ [b]) (hi' := w9.heap.size) HO4.out HL0.out HX.out HB4.out.size (Nat.le_refl _) HC51.out hrow9 (Nat.le_refl _) (by omega) (fun b hb hnb => (hk9 b (by rw [HS11.out]; omega) hnb).trans (HB11.out.block b hb)) (fun b hb => (ho9 b hb).imp id (fun e => by rw [e, HS11.out]; omega)))
                  clear hrow9 hk9 ho9 hb9)
                obtain ⟨V1, hV⟩ : ∃ v, w9.setCell ⟨g, i * 6 + 5, none⟩ (.slice E1 (m1 + 1) f1) = v := ⟨_, rfl⟩
                have hsv : V1.heap.size = w9.heap.size := by rw [← hV]; simp [World.setCell]
                have HBV1 := Lib.hid (show Below w.heap.size w V1 by rw [← hV]; exact hbl9.setCell hwg _)
                have hov := how9.out
                rw [hV, ← hsv] at hov
                have HV1 := Lib.hid hV
                rw [HV1.out]
                obtain ⟨Y1, hY⟩ : ∃ Y', X.set i { x with met := x.met ++ [b] } = Y' := ⟨_, rfl⟩
                rw [hY] at hov
                have HD1 := Lib.hid hY.symm
                have HL1 := Lib.hid (show Y1.length = n by rw [← hY, List.length_set]; exact HL0.out)
                obtain ⟨z1, hz⟩ : ∃ z : Tm, z = { x with met := x.met ++ [b] } := ⟨_, rfl⟩
                have HYi1 := Lib.hid (show Y1[i]? = some z1 by rw [← hY, hz]; exact List.getElem?_set_self (by have := HL0.out; rw [this]; exact hin))
                have HYj1 := Lib.hid (show Y1[j]? = some y by rw [← hY]; rw [List.getElem?_set_ne HIJ.out]; exact HY.out)
                have HE1 := Lib.hid hz
                have HOV1 := Lib.hid hov
                clear hY hz hov hV hsv hcw hc5 s5 f5 hg9 hw9 hbl9 how9 hsz9 hgw
                obtain ⟨u2, hc5, hrow5, hne⟩ := HOV1.out.cx5 HL1.out HYj1.out
                obtain ⟨_, hfz, _, _, hgw, _⟩ := HOV1.out.cells HL1.out HYj1.out
                obtain ⟨m2, hm⟩ : ∃ m, y.met.length = m := ⟨_, rfl⟩
                have HM2 := Lib.hid hm
                obtain ⟨A2, d2, rfl, _, _, _⟩ := hrow5.rd (n := m2) (by rw [ivs_len, hm])
                have hb1 := alloc_m V1 (Obj.cells #[Value.int .i64 a] 3)
                have HROW2 := Lib.hid (hrow5.new hb1)
                have HMADE2 := Lib.hid (show Rd (V1.alloc (Obj.cells #[Value.int .i64 a] 3)) (V1.heap.size + 1) (some ⟨V1.heap.size, 0, none⟩) [.int .i64 a] from Rd.made V1 #[Value.int .i64 a] 3)
                have LL2 := Lib.hid (show (ivs y.met).length + 1 ≤ maxLen ∧ ((ivs y.met).length + 1) * 8 ≤ 140737488355328 by rw [ivs_len]; have := HBY.out; unfold maxLen; omega)
                have hl12 : w.heap.size ≤ (V1.alloc (Obj.cells #[Value.int .i64 a] 3)).heap.size := by have := HBV1.out.size; simp; omega
                have hcw := nwc5 hb1 hc5
                have HC52 := Lib.hid hc5
                have HB12 := Lib.hid hb1
                have HNE2 := Lib.hid hne
                have HS12 := Lib.hid (show (V1.alloc (Obj.cells #[Value.int .i64 a] 3)).heap.size = V1.heap.size + 1 by simp)
                have HFZ2 := Lib.hid hfz
                clear hrow5 hm hb1 hfz hne
                go_upto_region 8 with (
                  at_builtin
                  refine wpList_appD rfl (.tmp 75) (.tmp 77) 45 rfl 3 i0' _ 8 Try.underlying45 hi0 hz0 hz1 hz2 rfl (v := .slice A2 m2 d2) (ad := ⟨V1.heap.size, 0, none⟩) (m := 1) (c := 1) rfl rfl HROW2.out rfl HMADE2.out (by simp [Value.oneCell']) LL2.out.1 LL2.out.2 hl12 ?_
                  intro v9 w9 hrow9 hsz9 hb9 hk9 ho9
                  rw [← ivs_one] at hrow9
                  obtain ⟨E2, f2, rfl, _, _, _⟩ := hrow9.rd (n := m2 + 1) (by rw [ivs_len, List.length_append, HM2.out]; rfl)
                  have hg9 : w9.heap[g]? = V1.heap[g]? := (hk9 g (by rw [HS12.out]; omega) HNE2.out).trans (HB12.out.block g hgw)
                  have s5 : w9.cell? ⟨g, j * 6 + 5, none⟩ = some (.slice A2 m2 d2) := (cell_same (p := ⟨g, j * 6 + 5, none⟩) hg9).trans HC52.out
                  have f5 : w9.frozen? ⟨g, j * 6 + 5, none⟩ = false := (frozen_same hg9).trans (HFZ2.out _)
                  have hw9 : V1.heap.size ≤ w9.heap.size := Nat.le_trans (HB12.out).size hsz9
                  have hbl9 : Below w.heap.size w w9 := (HBV1.out.trans (HB12.out.mono HBV1.out.size)).trans hb9
                  have how9 := Lib.hid (OwnT.gx (ys := y.met ++ [a]) (hi' := w9.heap.size) HOV1.out HL1.out HYj1.out HBV1.out.size (Nat.le_refl _) HC52.out hrow9 (Nat.le_refl _) (by omega) (fun b hb hnb => (hk9 b (by rw [HS12.out]; omega) hnb).trans (HB12.out.block b hb)) (fun b hb => (ho9 b hb).imp id (fun e => by rw [e, HS12.out]; omega)))
                  clear hrow9 hk9 ho9 hb9)
                obtain ⟨V2, hV⟩ : ∃ v, w9.setCell ⟨g, j * 6 + 5, none⟩ (.slice E2 (m2 + 1) f2) = v := ⟨_, rfl⟩
                have hsv : V2.heap.size = w9.heap.size := by rw [← hV]; simp [World.setCell]
                have HBV2 := Lib.hid (show Below w.heap.size w V2 by rw [← hV]; exact hbl9.setCell hwg _)
                have hov := how9.out
                rw [hV, ← hsv] at hov
                have HV2 := Lib.hid hV
                rw [HV2.out]
                obtain ⟨Y2, hY⟩ : ∃ Y', Y1.set j { y with met := y.met ++ [a] } = Y' := ⟨_, rfl⟩
                rw [hY] at hov
                have HD2 := Lib.hid hY.symm
                have HL2 := Lib.hid (show Y2.length = n by rw [← hY, List.length_set]; exact HL1.out)
                obtain ⟨z2, hz⟩ : ∃ z : Tm, z = { y with met := y.met ++ [a] } := ⟨_, rfl⟩
                have HYi2 := Lib.hid (show Y2[i]? = some z1 by rw [← hY]; rw [List.getElem?_set_ne HJI.out]; exact HYi1.out)
                have HYj2 := Lib.hid (show Y2[j]? = some z2 by rw [← hY, hz]; exact List.getElem?_set_self (by have := HL1.out; rw [this]; exact hjn))
                have HE2 := Lib.hid hz
                have HOV2 := Lib.hid hov
                clear hY hz hov hV hsv hcw hc5 s5 f5 hg9 hw9 hbl9 how9 hsz9 hgw
                obtain ⟨⟨c0, c1, c2, c3, c4⟩, hfz, _, _, _, _⟩ := HOV2.out.cells HL2.out HYi2.out
                have ff := hfz (i * 6 + 4)
                have hbd : 0 ≤ z1.firsts ∧ z1.firsts ≤ 200000 := by rw [HE1.out]; have := HBX.out; (try dsimp only); omega
                have w1 := IntWalk.i64_in (z1.firsts + 1) (by omega)
                have how9 := Lib.hid (HOV2.out.px4 HL2.out HYi2.out HBV2.out.size (z1.firsts + 1))
                clear hfz hbd
                go_upto_region 9 with fail
                obtain ⟨V3, hV⟩ : ∃ v, V2.setCell ⟨g, i * 6 + 4, none⟩ (.int .i64 (z1.firsts + 1)) = v := ⟨_, rfl⟩
                have hsv : V3.heap.size = V2.heap.size := by rw [← hV]; simp [World.setCell]
                have HBV3 := Lib.hid (show Below w.heap.size w V3 by rw [← hV]; exact HBV2.out.setCell hwg _)
                have hov := how9.out
                rw [hV, ← hsv] at hov
                have HV3 := Lib.hid hV
                rw [HV3.out]
                obtain ⟨Y3, hY⟩ : ∃ Y', Y2.set i { z1 with firsts := z1.firsts + 1 } = Y' := ⟨_, rfl⟩
                rw [hY] at hov
                have HD3 := Lib.hid hY.symm
                have HL3 := Lib.hid (show Y3.length = n by rw [← hY, List.length_set]; exact HL2.out)
                obtain ⟨z3, hz⟩ : ∃ z : Tm, z = { z1 with firsts := z1.firsts + 1 } := ⟨_, rfl⟩
                have HYi3 := Lib.hid (show Y3[i]? = some z3 by rw [← hY, hz]; exact List.getElem?_set_self (by have := HL2.out; rw [this]; exact hin))
                have HYj3 := Lib.hid (show Y3[j]? = some z2 by rw [← hY]; rw [List.getElem?_set_ne HIJ.out]; exact HYj2.out)
                have HE3 := Lib.hid hz
                have HOV3 := Lib.hid hov
                clear hY hz hov hV hsv c0 c1 c2 c3 c4 ff w1 how9
                obtain ⟨⟨c0, c1, c2, c3, c4⟩, hfz, _, _, _, _⟩ := HOV3.out.cells HL3.out HYi3.out
                have ff := hfz (i * 6 + 3)
                have hbd : 0 ≤ z3.pts ∧ z3.pts ≤ 200000 := by rw [HE3.out, HE1.out]; have := HBX.out; (try dsimp only); omega
                have w1 := IntWalk.i64_in (z3.pts + p) (by omega)
                have how9 := Lib.hid (HOV3.out.px3 HL3.out HYi3.out HBV3.out.size (z3.pts + p))
                clear hfz hbd
                go_upto_region 10 with fail
                obtain ⟨V4, hV⟩ : ∃ v, V3.setCell ⟨g, i * 6 + 3, none⟩ (.int .i64 (z3.pts + p)) = v := ⟨_, rfl⟩
                have hsv : V4.heap.size = V3.heap.size := by rw [← hV]; simp [World.setCell]
                have HBV4 := Lib.hid (show Below w.heap.size w V4 by rw [← hV]; exact HBV3.out.setCell hwg _)
                have hov := how9.out
                rw [hV, ← hsv] at hov
                have HV4 := Lib.hid hV
                rw [HV4.out]
                obtain ⟨Y4, hY⟩ : ∃ Y', Y3.set i { z3 with pts := z3.pts + p } = Y' := ⟨_, rfl⟩
                rw [hY] at hov
                have HD4 := Lib.hid hY.symm
                have HL4 := Lib.hid (show Y4.length = n by rw [← hY, List.length_set]; exact HL3.out)
                obtain ⟨z4, hz⟩ : ∃ z : Tm, z = { z3 with pts := z3.pts + p } := ⟨_, rfl⟩
                have HYi4 := Lib.hid (show Y4[i]? = some z4 by rw [← hY, hz]; exact List.getElem?_set_self (by have := HL3.out; rw [this]; exact hin))
                have HYj4 := Lib.hid (show Y4[j]? = some z2 by rw [← hY]; rw [List.getElem?_set_ne HIJ.out]; exact HYj3.out)
                have HE4 := Lib.hid hz
                have HOV4 := Lib.hid hov
                clear hY hz hov hV hsv c0 c1 c2 c3 c4 ff w1 how9
                obtain ⟨⟨c0, c1, c2, c3, c4⟩, hfz, _, _, _, _⟩ := HOV4.out.cells HL4.out HYj4.out
                have ff := hfz (j * 6 + 3)
                have hbd : 0 ≤ z2.pts ∧ z2.pts ≤ 200000 := by rw [HE2.out]; have := HBY.out; (try dsimp only); omega
                have w1 := IntWalk.i64_in (z2.pts + q) (by omega)
                have how9 := Lib.hid (HOV4.out.px3 HL4.out HYj4.out HBV4.out.size (z2.pts + q))
                clear hfz hbd
                go_upto_region 11 with fail
                obtain ⟨V5, hV⟩ : ∃ v, V4.setCell ⟨g, j * 6 + 3, none⟩ (.int .i64 (z2.pts + q)) = v := ⟨_, rfl⟩
                have hsv : V5.heap.size = V4.heap.size := by rw [← hV]; simp [World.setCell]
                have HBV5 := Lib.hid (show Below w.heap.size w V5 by rw [← hV]; exact HBV4.out.setCell hwg _)
                have hov := how9.out
                rw [hV, ← hsv] at hov
                have HV5 := Lib.hid hV
                rw [HV5.out]
                obtain ⟨Y5, hY⟩ : ∃ Y', Y4.set j { z2 with pts := z2.pts + q } = Y' := ⟨_, rfl⟩
                rw [hY] at hov
                have HD5 := Lib.hid hY.symm
                have HL5 := Lib.hid (show Y5.length = n by rw [← hY, List.length_set]; exact HL4.out)
                obtain ⟨z5, hz⟩ : ∃ z : Tm, z = { z2 with pts := z2.pts + q } := ⟨_, rfl⟩
                have HYi5 := Lib.hid (show Y5[i]? = some z4 by rw [← hY]; rw [List.getElem?_set_ne HJI.out]; exact HYi4.out)
                have HYj5 := Lib.hid (show Y5[j]? = some z5 by rw [← hY, hz]; exact List.getElem?_set_self (by have := HL4.out; rw [this]; exact hjn))
                have HE5 := Lib.hid hz
                have HOV5 := Lib.hid hov
                clear hY hz hov hV hsv c0 c1 c2 c3 c4 ff w1 how9
                rcases (show wi = 1 ∨ wi = 2 by omega) with rfl | rfl
                · obtain ⟨⟨c0, c1, c2, c3, c4⟩, hfz, _, _, _, _⟩ := HOV5.out.cells HL5.out HYi5.out
                  have ff := hfz (i * 6 + 2)
                  have hbd : 0 ≤ z4.wins ∧ z4.wins ≤ 200000 := by rw [HE4.out, HE3.out, HE1.out]; have := HBX.out; (try dsimp only); omega
                  have w1 := IntWalk.i64_in (z4.wins + 1) (by omega)
                  have how9 := Lib.hid (HOV5.out.px2 HL5.out HYi5.out HBV5.out.size (z4.wins + 1))
                  clear hfz hbd
                  go_upto_region 14 with fail
                  obtain ⟨V6, hV⟩ : ∃ v, V5.setCell ⟨g, i * 6 + 2, none⟩ (.int .i64 (z4.wins + 1)) = v := ⟨_, rfl⟩
                  have hsv : V6.heap.size = V5.heap.size := by rw [← hV]; simp [World.setCell]
                  have HBV6 := Lib.hid (show Below w.heap.size w V6 by rw [← hV]; exact HBV5.out.setCell hwg _)
                  have hov := how9.out
                  rw [hV, ← hsv] at hov
                  have HV6 := Lib.hid hV
                  rw [HV6.out]
                  obtain ⟨Y6, hY⟩ : ∃ Y', Y5.set i { z4 with wins := z4.wins + 1 } = Y' := ⟨_, rfl⟩
                  rw [hY] at hov
                  have HD6 := Lib.hid hY.symm
                  have HL6 := Lib.hid (show Y6.length = n by rw [← hY, List.length_set]; exact HL5.out)
                  obtain ⟨z6, hz⟩ : ∃ z : Tm, z = { z4 with wins := z4.wins + 1 } := ⟨_, rfl⟩
                  have HYi6 := Lib.hid (show Y6[i]? = some z6 by rw [← hY, hz]; exact List.getElem?_set_self (by have := HL5.out; rw [this]; exact hin))
                  have HYj6 := Lib.hid (show Y6[j]? = some z5 by rw [← hY]; rw [List.getElem?_set_ne HIJ.out]; exact HYj5.out)
                  have HE6 := Lib.hid hz
                  have HOV6 := Lib.hid hov
                  clear hY hz hov hV hsv c0 c1 c2 c3 c4 ff w1 how9
                  have HYE := Lib.hid (show Y6 = arsZ X a b 1 p q by
                    have e1 : z6 = adT { x with firsts := x.firsts + 1 } b true p := by rw [HE6.out, HE4.out, HE3.out, HE1.out]; rfl
                    have e2 : z5 = adT y a false q := by rw [HE5.out, HE2.out]; rfl
                    rw [HZ.out]
                    apply List.ext_getElem?
                    intro t
                    by_cases t1 : t = j
                    · subst t1
                      rw [HYj6.out, e2, List.getElem?_set_self (by rw [List.length_set]; exact hjl)]; rfl
                    · rw [List.getElem?_set_ne (fun e => t1 e.symm)]
                      by_cases t2 : t = i
                      · subst t2
                        rw [HYi6.out, e1, List.getElem?_set_self hil]; rfl
                      · rw [List.getElem?_set_ne (fun e => t2 e.symm), HD6.out, HD5.out, HD4.out, HD3.out, HD2.out, HD1.out]
                        repeat rw [List.getElem?_set_ne (by first | exact fun e => t1 e.symm | exact fun e => t2 e.symm)])
                  have HYS := Lib.hid (show ∀ z ∈ Y6, z.met.length ≤ 1048576 from by
                    rw [HYE.out, HZ.out]
                    intro z hz
                    rcases List.mem_or_eq_of_mem_set hz with hz | hz
                    · rcases List.mem_or_eq_of_mem_set hz with hz | hz
                      · exact hs.out z hz
                      · rw [hz]; show (x.met ++ [b]).length ≤ _; have := HBX.out; simp; omega
                    · rw [hz]; show (y.met ++ [a]).length ≤ _; have := HBY.out; simp; omega)
                  go_wp2_with fail
                  refine (specAreTeams_any HL6 hn HYS (HOV6.out.rd'.more (Nat.le_refl _))).mono ?_
                  rintro e W9 ⟨rfl, b9⟩
                  have HB9 := Lib.hid (HBV6.out.trans (b9.mono HBV6.out.size))
                  have hs9 := HB9.out.size
                  cases hTZ : atB Y6 with
                  | true =>
                    have HV := Lib.hid (ar_yes HOK.out HYE.out.symm hTZ)
                    have HO9 := Lib.hid ((HOV6.out.new b9).wide (Nat.le_refl _) b9.size)
                    clear hTZ b9
                    go_wp2_with fail
                    go_ret2
                    exact ⟨_, by rw [HV.out.2]; rfl, by rw [HV.out.1]; exact HO9.out, HB9.out⟩
                  | false =>
                    have HV := Lib.hid (ar_bad HOK.out HYE.out.symm hTZ)
                    clear hTZ b9
                    go_wp2_with fail
                    refine (l19Copy_any hl hn hs ((hr.below HB9.out).more hs9)).mono ?_
                    rintro e W10 ⟨v, rfl, how, b10⟩
                    obtain ⟨A5, c6, rfl, _⟩ := how.rd (n := n) hl.out
                    have HOW := Lib.hid how
                    clear how
                    go_wp2_with fail
                    go_ret2
                    exact ⟨_, by rw [HV.out.2]; rfl, by rw [HV.out.1]; exact HOW.out.wide hs9 (Nat.le_refl _), HB9.out.trans (b10.mono hs9)⟩
                · obtain ⟨⟨c0, c1, c2, c3, c4⟩, hfz, _, _, _, _⟩ := HOV5.out.cells HL5.out HYj5.out
                  have ff := hfz (j * 6 + 2)
                  have hbd : 0 ≤ z5.wins ∧ z5.wins ≤ 200000 := by rw [HE5.out, HE2.out]; have := HBY.out; (try dsimp only); omega
                  have w1 := IntWalk.i64_in (z5.wins + 1) (by omega)
                  have how9 := Lib.hid (HOV5.out.px2 HL5.out HYj5.out HBV5.out.size (z5.wins + 1))
                  clear hfz hbd
                  go_upto_region 14 with fail
                  obtain ⟨V6, hV⟩ : ∃ v, V5.setCell ⟨g, j * 6 + 2, none⟩ (.int .i64 (z5.wins + 1)) = v := ⟨_, rfl⟩
                  have hsv : V6.heap.size = V5.heap.size := by rw [← hV]; simp [World.setCell]
                  have HBV6 := Lib.hid (show Below w.heap.size w V6 by rw [← hV]; exact HBV5.out.setCell hwg _)
                  have hov := how9.out
                  rw [hV, ← hsv] at hov
                  have HV6 := Lib.hid hV
                  rw [HV6.out]
                  obtain ⟨Y6, hY⟩ : ∃ Y', Y5.set j { z5 with wins := z5.wins + 1 } = Y' := ⟨_, rfl⟩
                  rw [hY] at hov
                  have HD6 := Lib.hid hY.symm
                  have HL6 := Lib.hid (show Y6.length = n by rw [← hY, List.length_set]; exact HL5.out)
                  obtain ⟨z6, hz⟩ : ∃ z : Tm, z = { z5 with wins := z5.wins + 1 } := ⟨_, rfl⟩
                  have HYi6 := Lib.hid (show Y6[i]? = some z4 by rw [← hY]; rw [List.getElem?_set_ne HJI.out]; exact HYi5.out)
                  have HYj6 := Lib.hid (show Y6[j]? = some z6 by rw [← hY, hz]; exact List.getElem?_set_self (by have := HL5.out; rw [this]; exact hjn))
                  have HE6 := Lib.hid hz
                  have HOV6 := Lib.hid hov
                  clear hY hz hov hV hsv c0 c1 c2 c3 c4 ff w1 how9
                  have HYE := Lib.hid (show Y6 = arsZ X a b 2 p q by
                    have e1 : z4 = adT { x with firsts := x.firsts + 1 } b false p := by rw [HE4.out, HE3.out, HE1.out]; rfl
                    have e2 : z6 = adT y a true q := by rw [HE6.out, HE5.out, HE2.out]; rfl
                    rw [HZ.out]
                    apply List.ext_getElem?
                    intro t
                    by_cases t1 : t = j
                    · subst t1
                      rw [HYj6.out, e2, List.getElem?_set_self (by rw [List.length_set]; exact hjl)]; rfl
                    · rw [List.getElem?_set_ne (fun e => t1 e.symm)]
                      by_cases t2 : t = i
                      · subst t2
                        rw [HYi6.out, e1, List.getElem?_set_self hil]; rfl
                      · rw [List.getElem?_set_ne (fun e => t2 e.symm), HD6.out, HD5.out, HD4.out, HD3.out, HD2.out, HD1.out]
                        repeat rw [List.getElem?_set_ne (by first | exact fun e => t1 e.symm | exact fun e => t2 e.symm)])
                  have HYS := Lib.hid (show ∀ z ∈ Y6, z.met.length ≤ 1048576 from by
                    rw [HYE.out, HZ.out]
                    intro z hz
                    rcases List.mem_or_eq_of_mem_set hz with hz | hz
                    · rcases List.mem_or_eq_of_mem_set hz with hz | hz
                      · exact hs.out z hz
                      · rw [hz]; show (x.met ++ [b]).length ≤ _; have := HBX.out; simp; omega
                    · rw [hz]; show (y.met ++ [a]).length ≤ _; have := HBY.out; simp; omega)
                  go_wp2_with fail
                  refine (specAreTeams_any HL6 hn HYS (HOV6.out.rd'.more (Nat.le_refl _))).mono ?_
                  rintro e W9 ⟨rfl, b9⟩
                  have HB9 := Lib.hid (HBV6.out.trans (b9.mono HBV6.out.size))
                  have hs9 := HB9.out.size
                  cases hTZ : atB Y6 with
                  | true =>
                    have HV := Lib.hid (ar_yes HOK.out HYE.out.symm hTZ)
                    have HO9 := Lib.hid ((HOV6.out.new b9).wide (Nat.le_refl _) b9.size)
                    clear hTZ b9
                    go_wp2_with fail
                    go_ret2
                    exact ⟨_, by rw [HV.out.2]; rfl, by rw [HV.out.1]; exact HO9.out, HB9.out⟩
                  | false =>
                    have HV := Lib.hid (ar_bad HOK.out HYE.out.symm hTZ)
                    clear hTZ b9
                    go_wp2_with fail
                    refine (l19Copy_any hl hn hs ((hr.below HB9.out).more hs9)).mono ?_
                    rintro e W10 ⟨v, rfl, how, b10⟩
                    obtain ⟨A5, c6, rfl, _⟩ := how.rd (n := n) hl.out
                    have HOW := Lib.hid how
                    clear how
                    go_wp2_with fail
                    go_ret2
                    exact ⟨_, by rw [HV.out.2]; rfl, by rw [HV.out.1]; exact HOW.out.wide hs9 (Nat.le_refl _), HB9.out.trans (b10.mono hs9)⟩
end Go.Proofs.Ythkigilegnjglaa
