/- Contract of the code's Reply (chapter 13). Condition: the points have at most 10^12 elements. -/
import Derived.Test.YtignchefkihdaaaInsC
import Derived.Test.YtignchefkihdaaaDueC
import Derived.Test.YtignchefkihdaaaRaiM
namespace Go.Proofs.Ytignchefkihdaaa
open Go.ChangeShapes Go.WideShapes Go.ChangeAt Go.RowKit
set_option maxRecDepth 100000
theorem canB_any {w : World} {a b : Int} : Calls Try.prog 92 #[.int .i64 a, .int .i64 b] w (fun e w' => e = .returned (.bool (canB a b)) ∧ w = w') := by
  by_cases h0 : a = 0
  · subst h0
    by_cases h1 : b = 1
    · subst h1
      go_enter Try.func92, Try.ntmps92
      go_wp2_with fail
      go_ret
      exact ⟨rfl, rfl⟩
    · have e1 : (b == 1) = false := by simpa using h1
      by_cases h2 : b = 2
      · subst h2
        go_enter Try.func92, Try.ntmps92
        go_wp2_with fail
        go_ret
        exact ⟨rfl, rfl⟩
      · have e2 : (b == 2) = false := by simpa using h2
        have HV := Lib.hid (show canB 0 b = false by unfold canB; simp [h1, h2])
        go_enter Try.func92, Try.ntmps92
        go_wp2_with fail
        go_ret
        exact ⟨ret_b HV.out.symm, rfl⟩
  · have e0 : (a == 0) = false := by simpa using h0
    by_cases h2 : a = 2
    · subst h2
      by_cases h3 : b = 3
      · subst h3
        go_enter Try.func92, Try.ntmps92
        go_wp2_with fail
        go_ret
        exact ⟨rfl, rfl⟩
      · have e1 : (b == 3) = false := by simpa using h3
        by_cases h4 : b = 4
        · subst h4
          go_enter Try.func92, Try.ntmps92
          go_wp2_with fail
          go_ret
          exact ⟨rfl, rfl⟩
        · have e2 : (b == 4) = false := by simpa using h4
          have HV := Lib.hid (show canB 2 b = false by unfold canB; simp [h3, h4])
          go_enter Try.func92, Try.ntmps92
          go_wp2_with fail
          go_ret
          exact ⟨ret_b HV.out.symm, rfl⟩
    · have e2 : (a == 2) = false := by simpa using h2
      have HV := Lib.hid (show canB a b = false by unfold canB; rw [if_neg h0, if_neg h2])
      go_enter Try.func92, Try.ntmps92
      go_wp2_with fail
      go_ret
      exact ⟨ret_b HV.out.symm, rfl⟩
theorem repL_no {X : List T3} {k q s : Int} (h : repI X k q s = none) : repL X k q s = X := by unfold repL; rw [h]
theorem repL_yes {X : List T3} {k q s : Int} {p : Nat} (h : repI X k q s = some p) (hp : p < X.length) : repL X k q s = X.set p (X[p].1, X[p].2.1, s) := by unfold repL; rw [h]; simp only [getT hp]
theorem repI_bad {X : List T3} {k q s : Int} (h : ptB X = false) : repI X k q s = none := by unfold repI; rw [h, Bool.false_and]; rfl
set_option maxHeartbeats 4000000 in
theorem impReply_any {w : World} {A : Option Addr} {n c : Nat} {k q s : Int} {X : List T3} (hl : Hid (X.length = n)) (hn : n ≤ 900000000000) (hr : Rd w w.heap.size A (t3s X)) :
    Calls Try.prog 26 #[.slice A n c, .int .i64 k, .int .i64 q, .int .i64 s] w (GivesL w (repL X k q s) (repI X k q s).isSome) := by
  have HR := Lib.hid hr
  clear hr
  go_enter Try.func26, Try.ntmps26
  go_wp2_with fail
  refine (cloneP_any hl (by omega) HR.out).mono ?_
  rintro e w1 ⟨v, rfl, hrow, b1⟩
  obtain ⟨Av, cv, rfl, _, _, _⟩ := hrow.rd hl.out
  have HROW := Lib.hid hrow
  have sz1 := b1.size
  clear hrow
  go_wp2_with fail
  refine (placeOf_any (k := k) hl (by omega) ((HR.out.below b1).more sz1)).mono ?_
  rintro e w2 ⟨p, f, rfl, hp, hf, r⟩
  have b2 := b1.trans (r.mono sz1)
  have HROW2 := Lib.hid ((HROW.out.new r).wide (Nat.le_refl _) r.size)
  have hpn : p ≤ n := by rw [← hl.out]; exact hp.1
  have HP := Lib.hid hp
  have HF := Lib.hid hf
  have HR2 := Lib.hid ((HR.out.below b2).more b2.size)
  have sz2 := b2.size
  have HB2 := Lib.hid b2
  clear hp hf r b1 b2 HROW
  have FIN : Hid (∀ (u : World), Below w2.heap.size w2 u → repI X k q s = none → GivesL w (repL X k q s) (repI X k q s).isSome (.returned (.tuple #[.slice Av n cv, .bool false])) u) := Lib.hid (fun u r h => ⟨_, by rw [h]; rfl, by rw [repL_no h]; exact (HROW2.out.new r).wide (Nat.le_refl _) r.size, HB2.out.trans (r.mono sz2)⟩)
  cases hb : ptB X with
  | false =>
    have HPB := Lib.hid hb
    have HV := Lib.hid (repI_bad (k := k) (q := q) (s := s) hb)
    clear hb
    go_wp2_with fail
    refine (impArePoints_any (X := X) hl (by omega) HR2.out).mono ?_
    rintro e u ⟨rfl, r⟩
    rw [HPB.out]
    go_wp2_with fail
    refine bodyPost_ret (v := .tuple #[.slice Av n cv, .bool false]) (by simp [results, Try.results26, go_sem]) rfl ?_
    exact FIN.out u r HV.out
  | true =>
    have HPB := Lib.hid hb
    have HREP := Lib.hid (rep_plc (w := q) (s := s) hb HP.out)
    cases f with
    | false =>
      have HV := Lib.hid (show repI X k q s = none by
        rw [HREP.out, if_neg]
        unfold repC
        have h := HF.out
        intro e
        simp only [Bool.and_eq_true] at e
        rw [e.1, e.2.1] at h
        cases h)
      clear hb
      go_wp2_with fail
      refine (impArePoints_any (X := X) hl (by omega) HR2.out).mono ?_
      rintro e u ⟨rfl, r⟩
      rw [HPB.out]
      go_wp2_with fail
      refine bodyPost_ret (v := .tuple #[.slice Av n cv, .bool false]) (by simp [results, Try.results26, go_sem]) rfl ?_
      exact FIN.out u r HV.out
    | true =>
      have hpl : p < X.length ∧ (X.getD p (0, 0, 0)).1 = k := by
        have h := HF.out.symm
        simp only [Bool.and_eq_true, decide_eq_true_eq] at h
        exact h
      have hkz := hpl.1
      obtain ⟨x, hx⟩ : ∃ x : T3, x = X[p]'hkz := ⟨_, rfl⟩
      have HOK := Lib.hid (show ptOk (x.1, x.2.1, x.2.2) = true by rw [hx]; exact (ptB_iff.1 hb).1 p hkz)
      have HC := Lib.hid (show repC X k q s p = (decide (spkA x = q) && canB x.2.2 s) by
        have h2 := hpl.2
        unfold repC
        rw [getT hkz] at h2 ⊢
        rw [decide_eq_true hkz, decide_eq_true h2, Bool.true_and, Bool.true_and, hx])
      have HSET := Lib.hid (show repI X k q s = some p → repL X k q s = X.set p (x.1, x.2.1, s) by rw [hx]; exact fun h => repL_yes h hkz)
      have HT3 := Lib.hid (show (t3s X).set (p * 3 + 2) (.int .i64 s) = t3s (X.set p (x.1, x.2.1, s)) by rw [hx]; exact (t3s_sets X p hkz s).2.2)
      have i0 : (0 : Int) ≤ (p : Int) := by omega
      have i1 : (p : Int) < (n : Int) := by have := hl.out; omega
      have HKZ := Lib.hid hkz
      have HX := Lib.hid hx
      clear hb hpl hx
      go_wp2_with fail
      refine (impArePoints_any (X := X) hl (by omega) HR2.out).mono ?_
      rintro e u ⟨rfl, r⟩
      rw [HPB.out]
      obtain ⟨ad, y, rfl, hy, hab, c0, c1, c2⟩ := t3_cells ((HR2.out.below r).more r.size) hkz
      have c0' : u.cell? y = some (.int .i64 x.1) := by rw [HX.out]; exact c0
      have c1' : u.cell? ⟨y.block, y.off + 1, none⟩ = some (.int .i64 x.2.1) := by rw [HX.out]; exact c1
      have c2' : u.cell? ⟨y.block, y.off + 2, none⟩ = some (.int .i64 x.2.2) := by rw [HX.out]; exact c2
      have hru := (HROW2.out.new r).wide (Nat.le_refl _) r.size
      have hbu := HB2.out.trans (r.mono sz2)
      have HFIN := Lib.hid (fun (u9 : World) (r9 : Below u.heap.size u u9) (h : repI X k q s = none) => FIN.out u9 (r.trans (r9.mono r.size)) h)
      have szu := hbu.size
      clear c0 c1 c2 r
      by_cases hs1 : spkA x = q
      · cases hs2 : canB x.2.2 s with
        | false =>
          have HV := Lib.hid (show repI X k q s = none by rw [HREP.out, HC.out, hs2, Bool.and_false]; rfl)
          have H2 := Lib.hid hs2
          obtain ⟨z, hz⟩ : ∃ z, spkA x = z := ⟨_, rfl⟩
          rw [hz] at hs1
          subst hs1
          have HZ := Lib.hid hz
          have hzz : (z != z) = false := by simp
          have hok' := HOK.out
          clear hs2 hz
          go_wp2_with fail
          refine (speakerAt_any hok').mono ?_
          rintro e u9 ⟨rfl, r9⟩
          have HR9 := Lib.hid r9
          rw [show spkA (x.1, x.2.1, x.2.2) = z from HZ.out]
          have d2 := cell_nw r9 c2'
          clear r9 hok'
          go_wp2_with fail
          refine (canB_any).mono ?_
          rintro e u8 ⟨rfl, rfl⟩
          rw [H2.out]
          go_wp2_with fail
          refine bodyPost_ret (v := .tuple #[.slice Av n cv, .bool false]) (by simp [results, Try.results26, go_sem]) rfl ?_
          exact HFIN.out u9 HR9.out HV.out
        | true =>
          have HV := Lib.hid (show repI X k q s = some p by rw [HREP.out, HC.out, decide_eq_true hs1, hs2]; rfl)
          have H2 := Lib.hid hs2
          obtain ⟨z, hz⟩ : ∃ z, spkA x = z := ⟨_, rfl⟩
          rw [hz] at hs1
          subst hs1
          have HZ := Lib.hid hz
          have hzz : (z != z) = false := by simp
          have hok' := HOK.out
          obtain ⟨g, cg, eg, hg0, hg1, hg2, hgc, hgm⟩ := hru.base hl.out (by omega)
          injection eg with eg1 _ eg3
          subst eg1 eg3
          have HRU := Lib.hid hru
          have HBU := Lib.hid hbu
          clear hs2 hz hru hbu
          go_wp2_with fail
          refine (speakerAt_any hok').mono ?_
          rintro e u9 ⟨rfl, r9⟩
          rw [show spkA (x.1, x.2.1, x.2.2) = z from HZ.out]
          have d2 := cell_nw r9 c2'
          have hr9 := (HRU.out.new r9).wide (Nat.le_refl _) r9.size
          have hb9 := HBU.out.trans (r9.mono szu)
          obtain ⟨e0, _, _, q2, _, _, f2⟩ := row3_at hr9 (k := p) HKZ.out
          have HRN := Lib.hid (hr9.set HT3.out)
          have HB9 := Lib.hid (hb9.setCell (p := ⟨g, p * 3 + 2, none⟩) hg0 (.int .i64 s))
          clear r9 hok' hr9 hb9
          go_wp2_with fail
          refine (canB_any).mono ?_
          rintro e u8 ⟨rfl, rfl⟩
          rw [H2.out]
          go_wp2_with fail
          refine bodyPost_ret (v := .tuple #[.slice (some ⟨g, 0, none⟩) n cv, .bool true]) (by simp [results, Try.results26, go_sem]) rfl ?_
          exact ⟨_, by rw [HV.out]; rfl, by rw [HSET.out HV.out]; exact (show Row3 _ _ u9.heap.size _ _ _ from HRN.out).wide (Nat.le_refl _) (by simp [World.setCell]), HB9.out⟩
      · have HV := Lib.hid (show repI X k q s = none by rw [HREP.out, HC.out, decide_eq_false hs1, Bool.false_and]; rfl)
        obtain ⟨z, hz⟩ : ∃ z, spkA x = z := ⟨_, rfl⟩
        rw [hz] at hs1
        have HZ := Lib.hid hz
        have hzz : (z != q) = true := by simpa using hs1
        have hok' := HOK.out
        clear hz hs1
        go_wp2_with fail
        refine (speakerAt_any hok').mono ?_
        rintro e u9 ⟨rfl, r9⟩
        have HR9 := Lib.hid r9
        rw [show spkA (x.1, x.2.1, x.2.2) = z from HZ.out]
        clear r9 hok'
        go_wp2_with fail
        refine bodyPost_ret (v := .tuple #[.slice Av n cv, .bool false]) (by simp [results, Try.results26, go_sem]) rfl ?_
        exact HFIN.out u9 HR9.out HV.out
end Go.Proofs.Ytignchefkihdaaa
