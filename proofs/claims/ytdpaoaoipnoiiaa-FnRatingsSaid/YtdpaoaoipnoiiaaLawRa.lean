/- The law of chapter 25: what one gains another one loses, and the better one has less to gain. No conditions but that the code is small. -/
import Derived.Test.YtdpaoaoipnoiiaaDrawRat
import Derived.Test.YtdpaoaoipnoiiaaRtaC
import Derived.Test.YtdpaoaoipnoiiaaEnc
import Derived.Deep.DeepCutAuto
import Derived.BigQuiet
import Derived.Deep.Quiet
namespace Go.Proofs.Ytdpaoaoipnoiiaa
open Go.ChangeShapes Go.WideShapes Go.ChangeAt Go.RowKit
set_option maxRecDepth 100000
theorem rd_nr {W w : World} {A : Option Addr} {xs : List Value} (h : Rd W W.heap.size A xs) (b : Below W.heap.size W w) : Rd w w.heap.size A xs := (h.below b).more b.size
theorem OwnSS.rdN {w : World} {lo hi n c : Nat} {A : Option Addr} {X : List (List Int)} (h : OwnSS w lo hi (.slice A n c) X) (hn : X.length = n) (hh : hi ≤ w.heap.size) : RdSS w w.heap.size A X := by
  obtain ⟨A', c', e, hr, _, _⟩ := h.rd hn
  injection e with e1 e2 e3
  subst e1
  exact hr.more hh
section
variable {P : Program} {ops : Array Oper} {C : World → Prop}
/-- A region in its text's order is walked at a class of worlds, one operation at a time. -/
theorem wpList_quiet {Q : Exit → Act → World → Prop} : ∀ (l : List Oper) (a : Act) (w : World), C w → wpQuiet P ops C (fun a' => ∀ w', C w' → Q .normal a' w') l a → wpList P ops Q l a w
  | [], _, _, hw, h => h _ hw
  | o :: rest, a, w, hw, h => by
    unfold wpQuiet at h
    unfold wpList
    split
    · rename_i hk
      rw [if_pos hk] at h
      exact .inl (Oper.wp_of_quiet hw (fun a' w' hw' h' => wpList_quiet rest a' w' hw' h') h)
    · rename_i hk
      rw [if_neg hk] at h
      exact wpList_quiet rest _ _ hw h
theorem wp_region_seqQ {id : Nat} {Q : Exit → Act → World → Prop} {a : Act} {w : World} (hC : C w) (h : wpQuiet P ops C (fun a' => ∀ w', C w' → Q .normal a' w') ops.toList a) : (Code.region id ops false).wp P Q a w :=
  wp_region_list (wpList_quiet _ _ _ hC h)
end
set_option maxHeartbeats 8000000 in
theorem rat_core {W : World} {A : Option Addr} {n c : Nat} (h : Code8 W A n) (hs : n ≤ 1048576) : Calls Try.prog 3 #[.slice A n c] W (fun e W' => e = .returned (.bool true) ∧ Below W.heap.size W W') := by
  have HC := Lib.hid h
  have hud : ∀ b : Bool, (some undef = some (Value.bool b)) = False := fun b => by simp [undef]
  go_enter Try.func3, Try.ntmps3
  go_wp2_with (go_at_call 15; refine (big_no (by omega)).mono ?_; rintro e w1 ⟨rfl, rfl⟩)
  go_at_call 16
  refine (drawAfter_any h).mono ?_
  rintro e w2 ⟨a, b, won, ha, hb, rfl, b2⟩
  unfold InRt at ha hb
  have HB2 := Lib.hid b2
  have HC2 := Lib.hid (HC.out.below b2)
  have wa := wf64 (a := a) (by omega)
  have wb := wf64 (a := b) (by omega)
  have wab := IntWalk.i64_in (a + b) (by omega)
  clear b2 h
  obtain ⟨x, hx⟩ : ∃ x, a + excI a b won = x := ⟨_, rfl⟩
  obtain ⟨y, hy⟩ : ∃ y, b - excI a b won = y := ⟨_, rfl⟩
  obtain ⟨q, hq⟩ : ∃ q, expI a b = q := ⟨_, rfl⟩
  have HX := Lib.hid hx
  have HY := Lib.hid hy
  have HQ := Lib.hid hq
  have wxy : IntKind.i64.wrap (x + y) = a + b := by rw [show x + y = a + b by omega]; exact wab
  have HPO := Lib.hid (fun (h : ratB a b = true) => show (50 ≤ q ∧ q ≤ 950) ∧ expI b a = 1000 - q ∧ (0 ≤ x ∧ x ≤ 3000) ∧ (0 ≤ y ∧ y ≤ 3000) ∧ (won = true → a ≤ x) ∧ (won = false → x ≤ a) by
    have h2 := ratB_iff.1 h
    have h' : ratB b a = true := ratB_iff.2 ⟨h2.2, h2.1⟩
    have e1 := expI_ok h
    have e2 := expI_ok h'
    have e3 := expV_sum a b
    have e4 := expV_in a b
    have e5 := excI_ok (won := won) h
    have e6 := chg_in (e := expV a b) (won := won) h
    have e7 := chg_sign (e := expV a b) (won := won) h e4
    rw [e5] at hx hy
    refine ⟨by omega, by omega, by omega, by omega, fun hw => ?_, fun hw => ?_⟩
    · have := e7.1 hw; omega
    · have := e7.2 hw; omega)
  have HNO := Lib.hid (fun (h : ratB a b = false) => show q = -1 ∧ x = a ∧ y = b by
    have e1 := expI_no h
    have e2 := excI_no (won := won) h
    rw [e2] at hx hy
    refine ⟨by omega, by omega, by omega⟩)
  clear hx hy hq
  go_wp2_with fail
  refine (impAfterDebate_any wa wb).mono ?_
  rintro e w3 ⟨rfl, b3⟩
  rw [HX.out, HY.out]
  have HB3 := Lib.hid (trans_new HB2.out b3)
  have HC3 := Lib.hid (HC2.out.below b3)
  clear b3
  go_wp2_with fail
  refine impExpected_any.mono ?_
  rintro e w4 ⟨rfl, b4⟩
  rw [HQ.out]
  have HB4 := Lib.hid (trans_new HB3.out b4)
  have HC4 := Lib.hid (HC3.out.below b4)
  clear b4
  cases v : ratB a b with
  | true =>
    obtain ⟨⟨q0, q1⟩, hba, ⟨x0, x1⟩, ⟨y0, y1⟩, hw1, hw2⟩ := HPO.out v
    have h2 := ratB_iff.1 v
    have HBA := Lib.hid hba
    have f1 : decide (0 ≤ a) = true := decide_eq_true h2.1.1
    have f2 : decide (a ≤ 3000) = true := decide_eq_true h2.1.2
    have f3 : decide (0 ≤ b) = true := decide_eq_true h2.2.1
    have f4 : decide (b ≤ 3000) = true := decide_eq_true h2.2.2
    have f5 : decide (0 ≤ q) = true := decide_eq_true (by omega)
    have f6 : decide (x < 0) = false := decide_eq_false (by omega)
    have f7 : decide (3000 < x) = false := decide_eq_false (by omega)
    have f8 : decide (y < 0) = false := decide_eq_false (by omega)
    have f9 : decide (3000 < y) = false := decide_eq_false (by omega)
    have wq := IntWalk.i64_in (q + (1000 - q)) (by omega)
    have wq2 : q + (1000 - q) = 1000 := by omega
    rw [wq2] at wq
    cases won with
    | true =>
      have g1 : decide (x < a) = false := decide_eq_false (by have := hw1 rfl; omega)
      clear hw1 hw2 h2 hba v
      go_wp2_with fail
      refine impExpected_any.mono ?_
      rintro e w5 ⟨rfl, b5⟩
      rw [HBA.out]
      have HB5 := Lib.hid (trans_new HB4.out b5)
      have HC5 := Lib.hid (HC4.out.below b5)
      clear b5
      go_wp2_with fail
      go_at_call 19
      refine (drawRa_any HC5.out).mono ?_
      rintro e w6 ⟨v, u, Z, R, mid, rfl, hm1, hm2, hrow, hz5, hz, hown, hr8, hr2, b6⟩
      obtain ⟨zn, hzn⟩ : ∃ zn, Z.length = zn := ⟨_, rfl⟩
      obtain ⟨rn, hrn⟩ : ∃ rn, R.length = rn := ⟨_, rfl⟩
      obtain ⟨Av, cv, rfl, hrd, _, _⟩ := hrow.rd (n := zn) (by rw [ivs_len]; exact hzn)
      obtain ⟨Au, cu, rfl, hrdu, _, _⟩ := hown.rd (n := rn) hrn
      have HL := Lib.hid hzn
      have HL' := Lib.hid hrn
      have HRZ := Lib.hid (hrd.more hm2)
      have HRU := Lib.hid (hown.rdN hrn (Nat.le_refl _))
      have HB6 := Lib.hid (trans_new HB5.out b6)
      have HW := Lib.hid (show W64 Z from fun x hx => by have := hz x hx; omega)
      have HLL := Lib.hid (show (ratL Z R).length = zn from (ratL_len Z R).trans hzn)
      have HSS := Lib.hid (show sumR (ratL Z R) zn = sumR Z zn by rw [← HLL.out, sumR_all, HLL.out, ← HL.out, sumR_all, sumC_ratL])
      rw [hzn] at hz5
      rw [hrn] at hr8
      have HR2 := Lib.hid (show ∀ x ∈ R, x.length ≤ 1099511627776 from fun x hx => Nat.le_trans (hr2 x hx) (by omega))
      clear hzn hrn hrow hown hrd hrdu b6 hz hr2 hm1 hm2
      go_wp2_with fail
      refine (impRateAll_any (Z := Z) (R := R) HL (by omega) HRZ.out HW HL' (by omega) HR2 HRU.out).mono ?_
      rintro e w7 ⟨v7, rfl, hrow7, b7⟩
      obtain ⟨A7, c7, rfl, hrd7, _, _⟩ := hrow7.rd (n := zn) (by rw [ivs_len]; exact HLL.out)
      have HRD7 := Lib.hid hrd7
      have HB7 := Lib.hid b7
      clear hrow7 hrd7 b7
      go_wp2_with fail
      refine (impSumRatings_any (S := ratL Z R) HLL (by omega) HRD7.out).mono ?_
      rintro e w8 ⟨rfl, b8⟩
      rw [HSS.out]
      obtain ⟨sm, hsm⟩ : ∃ sm, sumR Z zn = sm := ⟨_, rfl⟩
      rw [hsm]
      have HSM := Lib.hid hsm
      have HB8 := Lib.hid (trans_new HB7.out b8)
      clear b8 hsm
      go_wp2_with fail
      refine (impSumRatings_any (S := Z) HL (by omega) (rd_nr HRZ.out HB8.out)).mono ?_
      rintro e w9 ⟨rfl, b9⟩
      rw [HSM.out]
      have HB9 := Lib.hid (trans_new HB6.out (trans_new HB8.out b9))
      clear b9
      go_wp2_with fail
      go_ret
      exact ⟨rfl, HB9.out⟩
    | false =>
      have g1 : decide (a < x) = false := decide_eq_false (by have := hw2 rfl; omega)
      clear hw1 hw2 h2 hba v
      go_wp2_with fail
      refine impExpected_any.mono ?_
      rintro e w5 ⟨rfl, b5⟩
      rw [HBA.out]
      have HB5 := Lib.hid (trans_new HB4.out b5)
      have HC5 := Lib.hid (HC4.out.below b5)
      clear b5
      go_wp2_with fail
      go_at_call 19
      refine (drawRa_any HC5.out).mono ?_
      rintro e w6 ⟨v, u, Z, R, mid, rfl, hm1, hm2, hrow, hz5, hz, hown, hr8, hr2, b6⟩
      obtain ⟨zn, hzn⟩ : ∃ zn, Z.length = zn := ⟨_, rfl⟩
      obtain ⟨rn, hrn⟩ : ∃ rn, R.length = rn := ⟨_, rfl⟩
      obtain ⟨Av, cv, rfl, hrd, _, _⟩ := hrow.rd (n := zn) (by rw [ivs_len]; exact hzn)
      obtain ⟨Au, cu, rfl, hrdu, _, _⟩ := hown.rd (n := rn) hrn
      have HL := Lib.hid hzn
      have HL' := Lib.hid hrn
      have HRZ := Lib.hid (hrd.more hm2)
      have HRU := Lib.hid (hown.rdN hrn (Nat.le_refl _))
      have HB6 := Lib.hid (trans_new HB5.out b6)
      have HW := Lib.hid (show W64 Z from fun x hx => by have := hz x hx; omega)
      have HLL := Lib.hid (show (ratL Z R).length = zn from (ratL_len Z R).trans hzn)
      have HSS := Lib.hid (show sumR (ratL Z R) zn = sumR Z zn by rw [← HLL.out, sumR_all, HLL.out, ← HL.out, sumR_all, sumC_ratL])
      rw [hzn] at hz5
      rw [hrn] at hr8
      have HR2 := Lib.hid (show ∀ x ∈ R, x.length ≤ 1099511627776 from fun x hx => Nat.le_trans (hr2 x hx) (by omega))
      clear hzn hrn hrow hown hrd hrdu b6 hz hr2 hm1 hm2
      go_wp2_with fail
      refine (impRateAll_any (Z := Z) (R := R) HL (by omega) HRZ.out HW HL' (by omega) HR2 HRU.out).mono ?_
      rintro e w7 ⟨v7, rfl, hrow7, b7⟩
      obtain ⟨A7, c7, rfl, hrd7, _, _⟩ := hrow7.rd (n := zn) (by rw [ivs_len]; exact HLL.out)
      have HRD7 := Lib.hid hrd7
      have HB7 := Lib.hid b7
      clear hrow7 hrd7 b7
      go_wp2_with fail
      refine (impSumRatings_any (S := ratL Z R) HLL (by omega) HRD7.out).mono ?_
      rintro e w8 ⟨rfl, b8⟩
      rw [HSS.out]
      obtain ⟨sm, hsm⟩ : ∃ sm, sumR Z zn = sm := ⟨_, rfl⟩
      rw [hsm]
      have HSM := Lib.hid hsm
      have HB8 := Lib.hid (trans_new HB7.out b8)
      clear b8 hsm
      go_wp2_with fail
      refine (impSumRatings_any (S := Z) HL (by omega) (rd_nr HRZ.out HB8.out)).mono ?_
      rintro e w9 ⟨rfl, b9⟩
      rw [HSM.out]
      have HB9 := Lib.hid (trans_new HB6.out (trans_new HB8.out b9))
      clear b9
      go_wp2_with fail
      go_ret
      exact ⟨rfl, HB9.out⟩
  | false =>
    obtain ⟨rfl, rfl, rfl⟩ := HNO.out v
    have hnv : ¬ ((0 ≤ x ∧ x ≤ 3000) ∧ (0 ≤ y ∧ y ≤ 3000)) := fun h => by rw [ratB_iff.2 h] at v; cases v
    clear v
    by_cases k1 : 0 ≤ x
    · have f1 : decide (0 ≤ x) = true := decide_eq_true k1
      by_cases k2 : x ≤ 3000
      · have f2 : decide (x ≤ 3000) = true := decide_eq_true k2
        by_cases k3 : 0 ≤ y
        · have f3 : decide (0 ≤ y) = true := decide_eq_true k3
          have f4 : decide (y ≤ 3000) = false := decide_eq_false (by omega)
          clear hnv
          go_upto_region 7 with fail
          refine wp_region_seqQ (C := fun u => u = w4) rfl ?_
          rw [List.toList_toArray]
          simp only [List.append_eq, List.cons_append, List.nil_append]
          go_big_quiet_want
          go_big_quiet_op
          go_big_quiet_on
          go_big_quiet_want
          go_big_quiet_op
          go_big_quiet_on
          go_big_quiet_want
          apply Exists.intro
          refine ⟨fun u hu => ?_, ?_⟩
          · have hu0 := hu
            unfold Oper.quietAt
            go_simp
            try rfl
          simp only [Act.put, List.setIfInBounds_toArray, List.set_cons_zero, List.set_cons_succ]
          go_big_quiet_on
          go_big_quiet_want
          go_big_quiet_op
          go_big_quiet_on
          go_big_quiet_want
          go_big_quiet_op
          go_big_quiet_on
          go_big_quiet_want
          apply Exists.intro
          refine ⟨fun u hu => ?_, ?_⟩
          · have hu0 := hu
            unfold Oper.quietAt
            go_simp
            try rfl
          simp only [Act.put, List.setIfInBounds_toArray, List.set_cons_zero, List.set_cons_succ]
          go_big_quiet_on
          go_big_quiet_want
          apply Exists.intro
          refine ⟨fun u hu => ?_, ?_⟩
          · have hu0 := hu
            unfold Oper.quietAt
            go_simp
            try rfl
          simp only [Act.put, List.setIfInBounds_toArray, List.set_cons_zero, List.set_cons_succ]
          go_big_quiet_on
          go_big_quiet_want
          go_big_quiet_op
          go_big_quiet_on
          go_big_quiet_want
          go_big_quiet_op
          go_big_quiet_on
          go_big_quiet_want
          apply Exists.intro
          refine ⟨fun u hu => ?_, ?_⟩
          · have hu0 := hu
            unfold Oper.quietAt
            go_simp
            try rfl
          simp only [Act.put, List.setIfInBounds_toArray, List.set_cons_zero, List.set_cons_succ]
          go_big_quiet_on
          go_big_quiet_want
          go_big_quiet_op
          go_big_quiet_on
          go_big_quiet_want
          apply Exists.intro
          refine ⟨fun u hu => ?_, ?_⟩
          · have hu0 := hu
            unfold Oper.quietAt
            go_simp
            try rfl
          simp only [Act.put, List.setIfInBounds_toArray, List.set_cons_zero, List.set_cons_succ]
          go_big_quiet_on
          go_big_quiet_want
          apply Exists.intro
          refine ⟨fun u hu => ?_, ?_⟩
          · have hu0 := hu
            unfold Oper.quietAt
            go_simp
            try rfl
          simp only [Act.put, List.setIfInBounds_toArray, List.set_cons_zero, List.set_cons_succ]
          go_big_quiet_on
          go_big_quiet_want
          go_big_quiet_op
          go_big_quiet_on
          go_big_quiet_want
          go_big_quiet_op
          go_big_quiet_on
          go_big_quiet_want
          go_big_quiet_op
          go_big_quiet_on
          repeat go_big_quiet_skip
          go_big_quiet_want
          apply Exists.intro
          refine ⟨fun u hu => ?_, ?_⟩
          · have hu0 := hu
            unfold Oper.quietAt
            go_simp
            try rfl
          simp only [Act.put, List.setIfInBounds_toArray, List.set_cons_zero, List.set_cons_succ]
          go_big_quiet_on
          go_big_quiet_want
          apply Exists.intro
          refine ⟨fun u hu => ?_, ?_⟩
          · have hu0 := hu
            unfold Oper.quietAt
            go_simp
            try rfl
          simp only [Act.put, List.setIfInBounds_toArray, List.set_cons_zero, List.set_cons_succ]
          go_big_quiet_on
          go_big_quiet_want
          go_big_quiet_op
          go_big_quiet_on
          go_big_quiet_want
          go_big_quiet_op
          go_big_quiet_on
          go_big_quiet_want
          apply Exists.intro
          refine ⟨fun u hu => ?_, ?_⟩
          · have hu0 := hu
            unfold Oper.quietAt
            go_simp
            try rfl
          simp only [Act.put, List.setIfInBounds_toArray, List.set_cons_zero, List.set_cons_succ]
          go_big_quiet_on
          go_big_quiet_want
          go_big_quiet_op
          go_big_quiet_on
          go_big_quiet_want
          go_big_quiet_op
          go_big_quiet_on
          go_big_quiet_want
          go_big_quiet_op
          go_big_quiet_on
          go_big_quiet_want
          apply Exists.intro
          refine ⟨fun u hu => ?_, ?_⟩
          · have hu0 := hu
            unfold Oper.quietAt
            go_simp
            try rfl
          simp only [Act.put, List.setIfInBounds_toArray, List.set_cons_zero, List.set_cons_succ]
          go_big_quiet_on
          go_big_quiet_want
          go_big_quiet_op
          go_big_quiet_on
          go_big_quiet_want
          go_big_quiet_op
          go_big_quiet_on
          go_big_quiet_want
          go_big_quiet_op
          go_big_quiet_on
          go_big_quiet_want
          apply Exists.intro
          refine ⟨fun u hu => ?_, ?_⟩
          · have hu0 := hu
            unfold Oper.quietAt
            go_simp
            try rfl
          simp only [Act.put, List.setIfInBounds_toArray, List.set_cons_zero, List.set_cons_succ]
          go_big_quiet_on
          go_big_quiet_want
          apply Exists.intro
          refine ⟨fun u hu => ?_, ?_⟩
          · have hu0 := hu
            unfold Oper.quietAt
            go_simp
            try rfl
          simp only [Act.put, List.setIfInBounds_toArray, List.set_cons_zero, List.set_cons_succ]
          go_big_quiet_on
          go_big_quiet_want
          apply Exists.intro
          refine ⟨fun u hu => ?_, ?_⟩
          · have hu0 := hu
            unfold Oper.quietAt
            go_simp
            try rfl
          simp only [Act.put, List.setIfInBounds_toArray, List.set_cons_zero, List.set_cons_succ]
          go_big_quiet_on
          go_big_quiet_want
          apply Exists.intro
          refine ⟨fun u hu => ?_, ?_⟩
          · have hu0 := hu
            unfold Oper.quietAt
            go_simp
            try rfl
          simp only [Act.put, List.setIfInBounds_toArray, List.set_cons_zero, List.set_cons_succ]
          go_big_quiet_on
          refine wpQuiet_nil ?_
          rintro u9 rfl
          go_wp2_with fail
          go_at_call 19
          refine (drawRa_any HC4.out).mono ?_
          rintro e w6 ⟨v, u, Z, R, mid, rfl, hm1, hm2, hrow, hz5, hz, hown, hr8, hr2, b6⟩
          obtain ⟨zn, hzn⟩ : ∃ zn, Z.length = zn := ⟨_, rfl⟩
          obtain ⟨rn, hrn⟩ : ∃ rn, R.length = rn := ⟨_, rfl⟩
          obtain ⟨Av, cv, rfl, hrd, _, _⟩ := hrow.rd (n := zn) (by rw [ivs_len]; exact hzn)
          obtain ⟨Au, cu, rfl, hrdu, _, _⟩ := hown.rd (n := rn) hrn
          have HL := Lib.hid hzn
          have HL' := Lib.hid hrn
          have HRZ := Lib.hid (hrd.more hm2)
          have HRU := Lib.hid (hown.rdN hrn (Nat.le_refl _))
          have HB6 := Lib.hid (trans_new HB4.out b6)
          have HW := Lib.hid (show W64 Z from fun x hx => by have := hz x hx; omega)
          have HLL := Lib.hid (show (ratL Z R).length = zn from (ratL_len Z R).trans hzn)
          have HSS := Lib.hid (show sumR (ratL Z R) zn = sumR Z zn by rw [← HLL.out, sumR_all, HLL.out, ← HL.out, sumR_all, sumC_ratL])
          rw [hzn] at hz5
          rw [hrn] at hr8
          have HR2 := Lib.hid (show ∀ x ∈ R, x.length ≤ 1099511627776 from fun x hx => Nat.le_trans (hr2 x hx) (by omega))
          clear hzn hrn hrow hown hrd hrdu b6 hz hr2 hm1 hm2
          go_wp2_with fail
          refine (impRateAll_any (Z := Z) (R := R) HL (by omega) HRZ.out HW HL' (by omega) HR2 HRU.out).mono ?_
          rintro e w7 ⟨v7, rfl, hrow7, b7⟩
          obtain ⟨A7, c7, rfl, hrd7, _, _⟩ := hrow7.rd (n := zn) (by rw [ivs_len]; exact HLL.out)
          have HRD7 := Lib.hid hrd7
          have HB7 := Lib.hid b7
          clear hrow7 hrd7 b7
          go_wp2_with fail
          refine (impSumRatings_any (S := ratL Z R) HLL (by omega) HRD7.out).mono ?_
          rintro e w8 ⟨rfl, b8⟩
          rw [HSS.out]
          obtain ⟨sm, hsm⟩ : ∃ sm, sumR Z zn = sm := ⟨_, rfl⟩
          rw [hsm]
          have HSM := Lib.hid hsm
          have HB8 := Lib.hid (trans_new HB7.out b8)
          clear b8 hsm
          go_wp2_with fail
          refine (impSumRatings_any (S := Z) HL (by omega) (rd_nr HRZ.out HB8.out)).mono ?_
          rintro e w9 ⟨rfl, b9⟩
          rw [HSM.out]
          have HB9 := Lib.hid (trans_new HB6.out (trans_new HB8.out b9))
          clear b9
          go_wp2_with fail
          go_ret
          exact ⟨rfl, HB9.out⟩
        · have f3 : decide (0 ≤ y) = false := decide_eq_false k3
          clear hnv
          go_upto_region 7 with fail
          refine wp_region_seqQ (C := fun u => u = w4) rfl ?_
          rw [List.toList_toArray]
          simp only [List.append_eq, List.cons_append, List.nil_append]
          go_big_quiet_want
          go_big_quiet_op
          go_big_quiet_on
          go_big_quiet_want
          go_big_quiet_op
          go_big_quiet_on
          go_big_quiet_want
          apply Exists.intro
          refine ⟨fun u hu => ?_, ?_⟩
          · have hu0 := hu
            unfold Oper.quietAt
            go_simp
            try rfl
          simp only [Act.put, List.setIfInBounds_toArray, List.set_cons_zero, List.set_cons_succ]
          go_big_quiet_on
          go_big_quiet_want
          go_big_quiet_op
          go_big_quiet_on
          go_big_quiet_want
          go_big_quiet_op
          go_big_quiet_on
          go_big_quiet_want
          apply Exists.intro
          refine ⟨fun u hu => ?_, ?_⟩
          · have hu0 := hu
            unfold Oper.quietAt
            go_simp
            try rfl
          simp only [Act.put, List.setIfInBounds_toArray, List.set_cons_zero, List.set_cons_succ]
          go_big_quiet_on
          go_big_quiet_want
          apply Exists.intro
          refine ⟨fun u hu => ?_, ?_⟩
          · have hu0 := hu
            unfold Oper.quietAt
            go_simp
            try rfl
          simp only [Act.put, List.setIfInBounds_toArray, List.set_cons_zero, List.set_cons_succ]
          go_big_quiet_on
          go_big_quiet_want
          go_big_quiet_op
          go_big_quiet_on
          go_big_quiet_want
          go_big_quiet_op
          go_big_quiet_on
          go_big_quiet_want
          apply Exists.intro
          refine ⟨fun u hu => ?_, ?_⟩
          · have hu0 := hu
            unfold Oper.quietAt
            go_simp
            try rfl
          simp only [Act.put, List.setIfInBounds_toArray, List.set_cons_zero, List.set_cons_succ]
          go_big_quiet_on
          go_big_quiet_want
          go_big_quiet_op
          go_big_quiet_on
          go_big_quiet_want
          apply Exists.intro
          refine ⟨fun u hu => ?_, ?_⟩
          · have hu0 := hu
            unfold Oper.quietAt
            go_simp
            try rfl
          simp only [Act.put, List.setIfInBounds_toArray, List.set_cons_zero, List.set_cons_succ]
          go_big_quiet_on
          go_big_quiet_want
          apply Exists.intro
          refine ⟨fun u hu => ?_, ?_⟩
          · have hu0 := hu
            unfold Oper.quietAt
            go_simp
            try rfl
          simp only [Act.put, List.setIfInBounds_toArray, List.set_cons_zero, List.set_cons_succ]
          go_big_quiet_on
          go_big_quiet_want
          go_big_quiet_op
          go_big_quiet_on
          go_big_quiet_want
          go_big_quiet_op
          go_big_quiet_on
          go_big_quiet_want
          go_big_quiet_op
          go_big_quiet_on
          repeat go_big_quiet_skip
          go_big_quiet_want
          apply Exists.intro
          refine ⟨fun u hu => ?_, ?_⟩
          · have hu0 := hu
            unfold Oper.quietAt
            go_simp
            try rfl
          simp only [Act.put, List.setIfInBounds_toArray, List.set_cons_zero, List.set_cons_succ]
          go_big_quiet_on
          go_big_quiet_want
          apply Exists.intro
          refine ⟨fun u hu => ?_, ?_⟩
          · have hu0 := hu
            unfold Oper.quietAt
            go_simp
            try rfl
          simp only [Act.put, List.setIfInBounds_toArray, List.set_cons_zero, List.set_cons_succ]
          go_big_quiet_on
          go_big_quiet_want
          go_big_quiet_op
          go_big_quiet_on
          go_big_quiet_want
          go_big_quiet_op
          go_big_quiet_on
          go_big_quiet_want
          apply Exists.intro
          refine ⟨fun u hu => ?_, ?_⟩
          · have hu0 := hu
            unfold Oper.quietAt
            go_simp
            try rfl
          simp only [Act.put, List.setIfInBounds_toArray, List.set_cons_zero, List.set_cons_succ]
          go_big_quiet_on
          go_big_quiet_want
          go_big_quiet_op
          go_big_quiet_on
          go_big_quiet_want
          go_big_quiet_op
          go_big_quiet_on
          go_big_quiet_want
          go_big_quiet_op
          go_big_quiet_on
          go_big_quiet_want
          apply Exists.intro
          refine ⟨fun u hu => ?_, ?_⟩
          · have hu0 := hu
            unfold Oper.quietAt
            go_simp
            try rfl
          simp only [Act.put, List.setIfInBounds_toArray, List.set_cons_zero, List.set_cons_succ]
          go_big_quiet_on
          go_big_quiet_want
          go_big_quiet_op
          go_big_quiet_on
          go_big_quiet_want
          go_big_quiet_op
          go_big_quiet_on
          go_big_quiet_want
          go_big_quiet_op
          go_big_quiet_on
          go_big_quiet_want
          apply Exists.intro
          refine ⟨fun u hu => ?_, ?_⟩
          · have hu0 := hu
            unfold Oper.quietAt
            go_simp
            try rfl
          simp only [Act.put, List.setIfInBounds_toArray, List.set_cons_zero, List.set_cons_succ]
          go_big_quiet_on
          go_big_quiet_want
          apply Exists.intro
          refine ⟨fun u hu => ?_, ?_⟩
          · have hu0 := hu
            unfold Oper.quietAt
            go_simp
            try rfl
          simp only [Act.put, List.setIfInBounds_toArray, List.set_cons_zero, List.set_cons_succ]
          go_big_quiet_on
          go_big_quiet_want
          apply Exists.intro
          refine ⟨fun u hu => ?_, ?_⟩
          · have hu0 := hu
            unfold Oper.quietAt
            go_simp
            try rfl
          simp only [Act.put, List.setIfInBounds_toArray, List.set_cons_zero, List.set_cons_succ]
          go_big_quiet_on
          go_big_quiet_want
          apply Exists.intro
          refine ⟨fun u hu => ?_, ?_⟩
          · have hu0 := hu
            unfold Oper.quietAt
            go_simp
            try rfl
          simp only [Act.put, List.setIfInBounds_toArray, List.set_cons_zero, List.set_cons_succ]
          go_big_quiet_on
          refine wpQuiet_nil ?_
          rintro u9 rfl
          go_wp2_with fail
          go_at_call 19
          refine (drawRa_any HC4.out).mono ?_
          rintro e w6 ⟨v, u, Z, R, mid, rfl, hm1, hm2, hrow, hz5, hz, hown, hr8, hr2, b6⟩
          obtain ⟨zn, hzn⟩ : ∃ zn, Z.length = zn := ⟨_, rfl⟩
          obtain ⟨rn, hrn⟩ : ∃ rn, R.length = rn := ⟨_, rfl⟩
          obtain ⟨Av, cv, rfl, hrd, _, _⟩ := hrow.rd (n := zn) (by rw [ivs_len]; exact hzn)
          obtain ⟨Au, cu, rfl, hrdu, _, _⟩ := hown.rd (n := rn) hrn
          have HL := Lib.hid hzn
          have HL' := Lib.hid hrn
          have HRZ := Lib.hid (hrd.more hm2)
          have HRU := Lib.hid (hown.rdN hrn (Nat.le_refl _))
          have HB6 := Lib.hid (trans_new HB4.out b6)
          have HW := Lib.hid (show W64 Z from fun x hx => by have := hz x hx; omega)
          have HLL := Lib.hid (show (ratL Z R).length = zn from (ratL_len Z R).trans hzn)
          have HSS := Lib.hid (show sumR (ratL Z R) zn = sumR Z zn by rw [← HLL.out, sumR_all, HLL.out, ← HL.out, sumR_all, sumC_ratL])
          rw [hzn] at hz5
          rw [hrn] at hr8
          have HR2 := Lib.hid (show ∀ x ∈ R, x.length ≤ 1099511627776 from fun x hx => Nat.le_trans (hr2 x hx) (by omega))
          clear hzn hrn hrow hown hrd hrdu b6 hz hr2 hm1 hm2
          go_wp2_with fail
          refine (impRateAll_any (Z := Z) (R := R) HL (by omega) HRZ.out HW HL' (by omega) HR2 HRU.out).mono ?_
          rintro e w7 ⟨v7, rfl, hrow7, b7⟩
          obtain ⟨A7, c7, rfl, hrd7, _, _⟩ := hrow7.rd (n := zn) (by rw [ivs_len]; exact HLL.out)
          have HRD7 := Lib.hid hrd7
          have HB7 := Lib.hid b7
          clear hrow7 hrd7 b7
          go_wp2_with fail
          refine (impSumRatings_any (S := ratL Z R) HLL (by omega) HRD7.out).mono ?_
          rintro e w8 ⟨rfl, b8⟩
          rw [HSS.out]
          obtain ⟨sm, hsm⟩ : ∃ sm, sumR Z zn = sm := ⟨_, rfl⟩
          rw [hsm]
          have HSM := Lib.hid hsm
          have HB8 := Lib.hid (trans_new HB7.out b8)
          clear b8 hsm
          go_wp2_with fail
          refine (impSumRatings_any (S := Z) HL (by omega) (rd_nr HRZ.out HB8.out)).mono ?_
          rintro e w9 ⟨rfl, b9⟩
          rw [HSM.out]
          have HB9 := Lib.hid (trans_new HB6.out (trans_new HB8.out b9))
          clear b9
          go_wp2_with fail
          go_ret
          exact ⟨rfl, HB9.out⟩
      · have f2 : decide (x ≤ 3000) = false := decide_eq_false k2
        clear hnv
        go_upto_region 7 with fail
        refine wp_region_seqQ (C := fun u => u = w4) rfl ?_
        rw [List.toList_toArray]
        simp only [List.append_eq, List.cons_append, List.nil_append]
        go_big_quiet_want
        go_big_quiet_op
        go_big_quiet_on
        go_big_quiet_want
        go_big_quiet_op
        go_big_quiet_on
        go_big_quiet_want
        apply Exists.intro
        refine ⟨fun u hu => ?_, ?_⟩
        · have hu0 := hu
          unfold Oper.quietAt
          go_simp
          try rfl
        simp only [Act.put, List.setIfInBounds_toArray, List.set_cons_zero, List.set_cons_succ]
        go_big_quiet_on
        go_big_quiet_want
        go_big_quiet_op
        go_big_quiet_on
        go_big_quiet_want
        go_big_quiet_op
        go_big_quiet_on
        go_big_quiet_want
        apply Exists.intro
        refine ⟨fun u hu => ?_, ?_⟩
        · have hu0 := hu
          unfold Oper.quietAt
          go_simp
          try rfl
        simp only [Act.put, List.setIfInBounds_toArray, List.set_cons_zero, List.set_cons_succ]
        go_big_quiet_on
        go_big_quiet_want
        apply Exists.intro
        refine ⟨fun u hu => ?_, ?_⟩
        · have hu0 := hu
          unfold Oper.quietAt
          go_simp
          try rfl
        simp only [Act.put, List.setIfInBounds_toArray, List.set_cons_zero, List.set_cons_succ]
        go_big_quiet_on
        go_big_quiet_want
        go_big_quiet_op
        go_big_quiet_on
        go_big_quiet_want
        go_big_quiet_op
        go_big_quiet_on
        go_big_quiet_want
        apply Exists.intro
        refine ⟨fun u hu => ?_, ?_⟩
        · have hu0 := hu
          unfold Oper.quietAt
          go_simp
          try rfl
        simp only [Act.put, List.setIfInBounds_toArray, List.set_cons_zero, List.set_cons_succ]
        go_big_quiet_on
        go_big_quiet_want
        go_big_quiet_op
        go_big_quiet_on
        go_big_quiet_want
        apply Exists.intro
        refine ⟨fun u hu => ?_, ?_⟩
        · have hu0 := hu
          unfold Oper.quietAt
          go_simp
          try rfl
        simp only [Act.put, List.setIfInBounds_toArray, List.set_cons_zero, List.set_cons_succ]
        go_big_quiet_on
        go_big_quiet_want
        apply Exists.intro
        refine ⟨fun u hu => ?_, ?_⟩
        · have hu0 := hu
          unfold Oper.quietAt
          go_simp
          try rfl
        simp only [Act.put, List.setIfInBounds_toArray, List.set_cons_zero, List.set_cons_succ]
        go_big_quiet_on
        go_big_quiet_want
        go_big_quiet_op
        go_big_quiet_on
        go_big_quiet_want
        go_big_quiet_op
        go_big_quiet_on
        go_big_quiet_want
        go_big_quiet_op
        go_big_quiet_on
        repeat go_big_quiet_skip
        go_big_quiet_want
        apply Exists.intro
        refine ⟨fun u hu => ?_, ?_⟩
        · have hu0 := hu
          unfold Oper.quietAt
          go_simp
          try rfl
        simp only [Act.put, List.setIfInBounds_toArray, List.set_cons_zero, List.set_cons_succ]
        go_big_quiet_on
        go_big_quiet_want
        apply Exists.intro
        refine ⟨fun u hu => ?_, ?_⟩
        · have hu0 := hu
          unfold Oper.quietAt
          go_simp
          try rfl
        simp only [Act.put, List.setIfInBounds_toArray, List.set_cons_zero, List.set_cons_succ]
        go_big_quiet_on
        go_big_quiet_want
        go_big_quiet_op
        go_big_quiet_on
        go_big_quiet_want
        go_big_quiet_op
        go_big_quiet_on
        go_big_quiet_want
        apply Exists.intro
        refine ⟨fun u hu => ?_, ?_⟩
        · have hu0 := hu
          unfold Oper.quietAt
          go_simp
          try rfl
        simp only [Act.put, List.setIfInBounds_toArray, List.set_cons_zero, List.set_cons_succ]
        go_big_quiet_on
        go_big_quiet_want
        go_big_quiet_op
        go_big_quiet_on
        go_big_quiet_want
        go_big_quiet_op
        go_big_quiet_on
        go_big_quiet_want
        go_big_quiet_op
        go_big_quiet_on
        go_big_quiet_want
        apply Exists.intro
        refine ⟨fun u hu => ?_, ?_⟩
        · have hu0 := hu
          unfold Oper.quietAt
          go_simp
          try rfl
        simp only [Act.put, List.setIfInBounds_toArray, List.set_cons_zero, List.set_cons_succ]
        go_big_quiet_on
        go_big_quiet_want
        go_big_quiet_op
        go_big_quiet_on
        go_big_quiet_want
        go_big_quiet_op
        go_big_quiet_on
        go_big_quiet_want
        go_big_quiet_op
        go_big_quiet_on
        go_big_quiet_want
        apply Exists.intro
        refine ⟨fun u hu => ?_, ?_⟩
        · have hu0 := hu
          unfold Oper.quietAt
          go_simp
          try rfl
        simp only [Act.put, List.setIfInBounds_toArray, List.set_cons_zero, List.set_cons_succ]
        go_big_quiet_on
        go_big_quiet_want
        apply Exists.intro
        refine ⟨fun u hu => ?_, ?_⟩
        · have hu0 := hu
          unfold Oper.quietAt
          go_simp
          try rfl
        simp only [Act.put, List.setIfInBounds_toArray, List.set_cons_zero, List.set_cons_succ]
        go_big_quiet_on
        go_big_quiet_want
        apply Exists.intro
        refine ⟨fun u hu => ?_, ?_⟩
        · have hu0 := hu
          unfold Oper.quietAt
          go_simp
          try rfl
        simp only [Act.put, List.setIfInBounds_toArray, List.set_cons_zero, List.set_cons_succ]
        go_big_quiet_on
        go_big_quiet_want
        apply Exists.intro
        refine ⟨fun u hu => ?_, ?_⟩
        · have hu0 := hu
          unfold Oper.quietAt
          go_simp
          try rfl
        simp only [Act.put, List.setIfInBounds_toArray, List.set_cons_zero, List.set_cons_succ]
        go_big_quiet_on
        refine wpQuiet_nil ?_
        rintro u9 rfl
        go_wp2_with fail
        go_at_call 19
        refine (drawRa_any HC4.out).mono ?_
        rintro e w6 ⟨v, u, Z, R, mid, rfl, hm1, hm2, hrow, hz5, hz, hown, hr8, hr2, b6⟩
        obtain ⟨zn, hzn⟩ : ∃ zn, Z.length = zn := ⟨_, rfl⟩
        obtain ⟨rn, hrn⟩ : ∃ rn, R.length = rn := ⟨_, rfl⟩
        obtain ⟨Av, cv, rfl, hrd, _, _⟩ := hrow.rd (n := zn) (by rw [ivs_len]; exact hzn)
        obtain ⟨Au, cu, rfl, hrdu, _, _⟩ := hown.rd (n := rn) hrn
        have HL := Lib.hid hzn
        have HL' := Lib.hid hrn
        have HRZ := Lib.hid (hrd.more hm2)
        have HRU := Lib.hid (hown.rdN hrn (Nat.le_refl _))
        have HB6 := Lib.hid (trans_new HB4.out b6)
        have HW := Lib.hid (show W64 Z from fun x hx => by have := hz x hx; omega)
        have HLL := Lib.hid (show (ratL Z R).length = zn from (ratL_len Z R).trans hzn)
        have HSS := Lib.hid (show sumR (ratL Z R) zn = sumR Z zn by rw [← HLL.out, sumR_all, HLL.out, ← HL.out, sumR_all, sumC_ratL])
        rw [hzn] at hz5
        rw [hrn] at hr8
        have HR2 := Lib.hid (show ∀ x ∈ R, x.length ≤ 1099511627776 from fun x hx => Nat.le_trans (hr2 x hx) (by omega))
        clear hzn hrn hrow hown hrd hrdu b6 hz hr2 hm1 hm2
        go_wp2_with fail
        refine (impRateAll_any (Z := Z) (R := R) HL (by omega) HRZ.out HW HL' (by omega) HR2 HRU.out).mono ?_
        rintro e w7 ⟨v7, rfl, hrow7, b7⟩
        obtain ⟨A7, c7, rfl, hrd7, _, _⟩ := hrow7.rd (n := zn) (by rw [ivs_len]; exact HLL.out)
        have HRD7 := Lib.hid hrd7
        have HB7 := Lib.hid b7
        clear hrow7 hrd7 b7
        go_wp2_with fail
        refine (impSumRatings_any (S := ratL Z R) HLL (by omega) HRD7.out).mono ?_
        rintro e w8 ⟨rfl, b8⟩
        rw [HSS.out]
        obtain ⟨sm, hsm⟩ : ∃ sm, sumR Z zn = sm := ⟨_, rfl⟩
        rw [hsm]
        have HSM := Lib.hid hsm
        have HB8 := Lib.hid (trans_new HB7.out b8)
        clear b8 hsm
        go_wp2_with fail
        refine (impSumRatings_any (S := Z) HL (by omega) (rd_nr HRZ.out HB8.out)).mono ?_
        rintro e w9 ⟨rfl, b9⟩
        rw [HSM.out]
        have HB9 := Lib.hid (trans_new HB6.out (trans_new HB8.out b9))
        clear b9
        go_wp2_with fail
        go_ret
        exact ⟨rfl, HB9.out⟩
    · have f1 : decide (0 ≤ x) = false := decide_eq_false k1
      clear hnv
      go_upto_region 7 with fail
      refine wp_region_seqQ (C := fun u => u = w4) rfl ?_
      rw [List.toList_toArray]
      simp only [List.append_eq, List.cons_append, List.nil_append]
      go_big_quiet_want
      go_big_quiet_op
      go_big_quiet_on
      go_big_quiet_want
      go_big_quiet_op
      go_big_quiet_on
      go_big_quiet_want
      apply Exists.intro
      refine ⟨fun u hu => ?_, ?_⟩
      · have hu0 := hu
        unfold Oper.quietAt
        go_simp
        try rfl
      simp only [Act.put, List.setIfInBounds_toArray, List.set_cons_zero, List.set_cons_succ]
      go_big_quiet_on
      go_big_quiet_want
      go_big_quiet_op
      go_big_quiet_on
      go_big_quiet_want
      go_big_quiet_op
      go_big_quiet_on
      go_big_quiet_want
      apply Exists.intro
      refine ⟨fun u hu => ?_, ?_⟩
      · have hu0 := hu
        unfold Oper.quietAt
        go_simp
        try rfl
      simp only [Act.put, List.setIfInBounds_toArray, List.set_cons_zero, List.set_cons_succ]
      go_big_quiet_on
      go_big_quiet_want
      apply Exists.intro
      refine ⟨fun u hu => ?_, ?_⟩
      · have hu0 := hu
        unfold Oper.quietAt
        go_simp
        try rfl
      simp only [Act.put, List.setIfInBounds_toArray, List.set_cons_zero, List.set_cons_succ]
      go_big_quiet_on
      go_big_quiet_want
      go_big_quiet_op
      go_big_quiet_on
      go_big_quiet_want
      go_big_quiet_op
      go_big_quiet_on
      go_big_quiet_want
      apply Exists.intro
      refine ⟨fun u hu => ?_, ?_⟩
      · have hu0 := hu
        unfold Oper.quietAt
        go_simp
        try rfl
      simp only [Act.put, List.setIfInBounds_toArray, List.set_cons_zero, List.set_cons_succ]
      go_big_quiet_on
      go_big_quiet_want
      go_big_quiet_op
      go_big_quiet_on
      go_big_quiet_want
      apply Exists.intro
      refine ⟨fun u hu => ?_, ?_⟩
      · have hu0 := hu
        unfold Oper.quietAt
        go_simp
        try rfl
      simp only [Act.put, List.setIfInBounds_toArray, List.set_cons_zero, List.set_cons_succ]
      go_big_quiet_on
      go_big_quiet_want
      apply Exists.intro
      refine ⟨fun u hu => ?_, ?_⟩
      · have hu0 := hu
        unfold Oper.quietAt
        go_simp
        try rfl
      simp only [Act.put, List.setIfInBounds_toArray, List.set_cons_zero, List.set_cons_succ]
      go_big_quiet_on
      go_big_quiet_want
      go_big_quiet_op
      go_big_quiet_on
      go_big_quiet_want
      go_big_quiet_op
      go_big_quiet_on
      go_big_quiet_want
      go_big_quiet_op
      go_big_quiet_on
      repeat go_big_quiet_skip
      go_big_quiet_want
      apply Exists.intro
      refine ⟨fun u hu => ?_, ?_⟩
      · have hu0 := hu
        unfold Oper.quietAt
        go_simp
        try rfl
      simp only [Act.put, List.setIfInBounds_toArray, List.set_cons_zero, List.set_cons_succ]
      go_big_quiet_on
      go_big_quiet_want
      apply Exists.intro
      refine ⟨fun u hu => ?_, ?_⟩
      · have hu0 := hu
        unfold Oper.quietAt
        go_simp
        try rfl
      simp only [Act.put, List.setIfInBounds_toArray, List.set_cons_zero, List.set_cons_succ]
      go_big_quiet_on
      go_big_quiet_want
      go_big_quiet_op
      go_big_quiet_on
      go_big_quiet_want
      go_big_quiet_op
      go_big_quiet_on
      go_big_quiet_want
      apply Exists.intro
      refine ⟨fun u hu => ?_, ?_⟩
      · have hu0 := hu
        unfold Oper.quietAt
        go_simp
        try rfl
      simp only [Act.put, List.setIfInBounds_toArray, List.set_cons_zero, List.set_cons_succ]
      go_big_quiet_on
      go_big_quiet_want
      go_big_quiet_op
      go_big_quiet_on
      go_big_quiet_want
      go_big_quiet_op
      go_big_quiet_on
      go_big_quiet_want
      go_big_quiet_op
      go_big_quiet_on
      go_big_quiet_want
      apply Exists.intro
      refine ⟨fun u hu => ?_, ?_⟩
      · have hu0 := hu
        unfold Oper.quietAt
        go_simp
        try rfl
      simp only [Act.put, List.setIfInBounds_toArray, List.set_cons_zero, List.set_cons_succ]
      go_big_quiet_on
      go_big_quiet_want
      go_big_quiet_op
      go_big_quiet_on
      go_big_quiet_want
      go_big_quiet_op
      go_big_quiet_on
      go_big_quiet_want
      go_big_quiet_op
      go_big_quiet_on
      go_big_quiet_want
      apply Exists.intro
      refine ⟨fun u hu => ?_, ?_⟩
      · have hu0 := hu
        unfold Oper.quietAt
        go_simp
        try rfl
      simp only [Act.put, List.setIfInBounds_toArray, List.set_cons_zero, List.set_cons_succ]
      go_big_quiet_on
      go_big_quiet_want
      apply Exists.intro
      refine ⟨fun u hu => ?_, ?_⟩
      · have hu0 := hu
        unfold Oper.quietAt
        go_simp
        try rfl
      simp only [Act.put, List.setIfInBounds_toArray, List.set_cons_zero, List.set_cons_succ]
      go_big_quiet_on
      go_big_quiet_want
      apply Exists.intro
      refine ⟨fun u hu => ?_, ?_⟩
      · have hu0 := hu
        unfold Oper.quietAt
        go_simp
        try rfl
      simp only [Act.put, List.setIfInBounds_toArray, List.set_cons_zero, List.set_cons_succ]
      go_big_quiet_on
      go_big_quiet_want
      apply Exists.intro
      refine ⟨fun u hu => ?_, ?_⟩
      · have hu0 := hu
        unfold Oper.quietAt
        go_simp
        try rfl
      simp only [Act.put, List.setIfInBounds_toArray, List.set_cons_zero, List.set_cons_succ]
      go_big_quiet_on
      refine wpQuiet_nil ?_
      rintro u9 rfl
      go_wp2_with fail
      go_at_call 19
      refine (drawRa_any HC4.out).mono ?_
      rintro e w6 ⟨v, u, Z, R, mid, rfl, hm1, hm2, hrow, hz5, hz, hown, hr8, hr2, b6⟩
      obtain ⟨zn, hzn⟩ : ∃ zn, Z.length = zn := ⟨_, rfl⟩
      obtain ⟨rn, hrn⟩ : ∃ rn, R.length = rn := ⟨_, rfl⟩
      obtain ⟨Av, cv, rfl, hrd, _, _⟩ := hrow.rd (n := zn) (by rw [ivs_len]; exact hzn)
      obtain ⟨Au, cu, rfl, hrdu, _, _⟩ := hown.rd (n := rn) hrn
      have HL := Lib.hid hzn
      have HL' := Lib.hid hrn
      have HRZ := Lib.hid (hrd.more hm2)
      have HRU := Lib.hid (hown.rdN hrn (Nat.le_refl _))
      have HB6 := Lib.hid (trans_new HB4.out b6)
      have HW := Lib.hid (show W64 Z from fun x hx => by have := hz x hx; omega)
      have HLL := Lib.hid (show (ratL Z R).length = zn from (ratL_len Z R).trans hzn)
      have HSS := Lib.hid (show sumR (ratL Z R) zn = sumR Z zn by rw [← HLL.out, sumR_all, HLL.out, ← HL.out, sumR_all, sumC_ratL])
      rw [hzn] at hz5
      rw [hrn] at hr8
      have HR2 := Lib.hid (show ∀ x ∈ R, x.length ≤ 1099511627776 from fun x hx => Nat.le_trans (hr2 x hx) (by omega))
      clear hzn hrn hrow hown hrd hrdu b6 hz hr2 hm1 hm2
      go_wp2_with fail
      refine (impRateAll_any (Z := Z) (R := R) HL (by omega) HRZ.out HW HL' (by omega) HR2 HRU.out).mono ?_
      rintro e w7 ⟨v7, rfl, hrow7, b7⟩
      obtain ⟨A7, c7, rfl, hrd7, _, _⟩ := hrow7.rd (n := zn) (by rw [ivs_len]; exact HLL.out)
      have HRD7 := Lib.hid hrd7
      have HB7 := Lib.hid b7
      clear hrow7 hrd7 b7
      go_wp2_with fail
      refine (impSumRatings_any (S := ratL Z R) HLL (by omega) HRD7.out).mono ?_
      rintro e w8 ⟨rfl, b8⟩
      rw [HSS.out]
      obtain ⟨sm, hsm⟩ : ∃ sm, sumR Z zn = sm := ⟨_, rfl⟩
      rw [hsm]
      have HSM := Lib.hid hsm
      have HB8 := Lib.hid (trans_new HB7.out b8)
      clear b8 hsm
      go_wp2_with fail
      refine (impSumRatings_any (S := Z) HL (by omega) (rd_nr HRZ.out HB8.out)).mono ?_
      rintro e w9 ⟨rfl, b9⟩
      rw [HSM.out]
      have HB9 := Lib.hid (trans_new HB6.out (trans_new HB8.out b9))
      clear b9
      go_wp2_with fail
      go_ret
      exact ⟨rfl, HB9.out⟩
end Go.Proofs.Ytdpaoaoipnoiiaa
