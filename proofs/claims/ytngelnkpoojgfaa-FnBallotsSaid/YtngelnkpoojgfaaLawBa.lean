/- The law of chapter 16: whoever has more votes wins, and the other way round both decisions change. No conditions but that the code is small. -/
import Derived.Test.YtngelnkpoojgfaaDrawBal
import Derived.Test.YtngelnkpoojgfaaBalC4
namespace Go.Proofs.Ytngelnkpoojgfaa
open Go.ChangeShapes Go.WideShapes Go.ChangeAt Go.RowKit
set_option maxRecDepth 100000
theorem step_app3 {P : Program} {w : World} {ops : Array Oper} {o : Oper} {a : Act} {Q : Exit → Act → World → Prop} {K : Act → World → Prop} {E : Prop} (hgd : o.guard = none) (s x : Operand) (t : TypeId)
    (ho : o.op = .call { callee := .builtin .append, args := #[s, x], argTypes := #[t, t] })
    (e : TypeId) (i : TypeInfo) (z : Value) (bytes : Nat) (ht : P.underlying t = some (.slice e)) (hi : P.info? e = some i) (hz : i.zero = some z) (hsize : i.size = 3) (hby : i.bytes = bytes) (hzs : z.cells.size = 3)
    {lo hi' B m c : Nat} {v : Value} {X Y : List T3} {A : Option Addr} (hs : a.eval s = v) (hx : a.eval x = .slice A m c) (hrow : Row3 w lo hi' e v X) (hm : Y.length = m) (hr : Rd w B A (t3s Y))
    (h63 : X.length + m ≤ maxLen) (hbytes : (X.length + m) * bytes ≤ 140737488355328) (hlo : lo ≤ w.heap.size)
    (hK : ∀ v' w', Row3 w' lo w'.heap.size e v' (X ++ Y) → Out lo hi' w w' → K (a.put o.dst v') w') : if Region.wanted o (yielded ops a.tmps) = true then Oper.wp P o a w K Q else E := by
  obtain ⟨v', w', hrun, h2, h3⟩ := run_app3 (P := P) t o.type e i z bytes ht hi hz hsize hby hzs (c := c) hrow hm hr h63 hbytes hlo
  have hw : Region.wanted o (yielded ops a.tmps) = true := by simp [Region.wanted, hgd]
  rw [if_pos hw]
  unfold Oper.wp
  simp [execOp, ho, resolve, invoke, builtin, hs, hx, hrun, Result.andThen]
  exact hK v' w' h2 h3
theorem turL_snoc (X : List T3) {k : Nat} (hk : k < X.length) : turL (X.take (k + 1)) = turL (X.take k) ++ [turB X[k]] := by
  unfold turL
  rw [List.take_succ_eq_append_getElem hk, List.map_append]
  rfl
theorem rd_n {W w : World} {A : Option Addr} {xs : List Value} (h : Rd W W.heap.size A xs) (b : Below W.heap.size W w) : Rd w w.heap.size A xs := (h.below b).more b.size
theorem spl_1 {X : List T3} (h : ¬ 0 < votN X 1) : splB X = false := by unfold splB; rw [decide_eq_false h, Bool.false_and]
theorem spl_2 {X : List T3} (h : 0 < votN X 1) : splB X = decide (0 < votN X 2) := by unfold splB; rw [decide_eq_true h, Bool.true_and]
theorem dec_no0 {X : List T3} (h : X.length = 0) : decN X = 0 := by unfold decN; rw [if_pos h]
theorem dec_noB {X : List T3} (h : bsB X = false) : decN X = 0 := by unfold decN; split; rfl; rw [h]; rfl
set_option maxHeartbeats 8000000 in
theorem bal_core {W : World} {A : Option Addr} {n c : Nat} (h : Code8 W A n) (hs : n ≤ 1048576) : Calls Try.prog 14 #[.slice A n c] W (fun e W' => e = .returned (.bool true) ∧ Below W.heap.size W W') := by
  have HC := Lib.hid h
  obtain ⟨i0, hi, ii0, ii1, ii2⟩ := info_parts BallotS_info
  go_enter Try.func14, Try.ntmps14
  go_wp2_with (go_at_call 46; refine (big_no (by omega)).mono ?_; rintro e w1 ⟨rfl, rfl⟩)
  go_at_call 47
  refine (drawDec_any h).mono ?_
  rintro e w2 ⟨v, X, rfl, hrow, hx5, b2⟩
  obtain ⟨Av, cv, rfl, hrd, _, _⟩ := hrow.rd (n := X.length) rfl
  have HR := Lib.hid hrd
  clear hrow hrd h
  obtain ⟨D, hD⟩ : ∃ D, decN X = D := ⟨_, rfl⟩
  have HD := Lib.hid hD
  clear hD
  go_wp2_with fail
  refine (impDecision_any (X := X) (Lib.hid rfl) (by omega) HR.out).mono ?_
  rintro e w3 ⟨rfl, k3⟩
  rw [HD.out]
  go_wp2_with fail
  refine (specDecision_any (X := X) (Lib.hid rfl) (by omega) (rd_n HR.out k3)).mono ?_
  rintro e w4 ⟨rfl, r⟩
  rw [HD.out]
  have k4 := k3.trans (r.mono k3.size)
  have hDD : (D != D) = false := by simp
  clear r k3
  by_cases hv : 0 < X.length ∧ bsB X = true
  · have hDz : D ≠ 0 := by
      have h := dec_some X
      rw [hv.2, decide_eq_true hv.1, HD.out] at h
      exact of_decide_eq_true h
    have hD12 : -10 ≤ D ∧ D ≤ 10 := by
      have h : decN X = D := HD.out
      unfold decN sgnD at h
      have := of_two (X.getD 0 (0, 0, 0))
      split at h
      · omega
      · split at h
        · split at h
          · omega
          · split at h <;> omega
        · omega
    have hDb : (D != 0) = true := by simpa using hDz
    have hlx : decide ((0 : Int) < (X.length : Int)) = true := decide_eq_true (by have := hv.1; omega)
    have HB := Lib.hid hv.2
    go_wp2_with fail
    refine (impAreBallots_any (X := X) (Lib.hid rfl) (by omega) (rd_n HR.out k4)).mono ?_
    rintro e w5 ⟨rfl, r⟩
    rw [HB.out]
    have k5 := k4.trans (r.mono k4.size)
    clear r k4
    have hb0 := alloc_new' w5 (Obj.cells #[] 51)
    have hrow0 : Row3 (w5.alloc (Obj.cells #[] 51)) w5.heap.size (w5.alloc (Obj.cells #[] 51)).heap.size 51 (.slice (some ⟨w5.heap.size, 0, none⟩) 0 0) [] := (Row3.made (w := w5) w5.heap.size #[] 0 (Nat.le_refl _) rfl rfl (Nat.zero_le _)).wide (Nat.le_refl _) (by simp)
    go_wp2_with fail
    go_loopw [5, 6] (fun s i wr => ∃ k : Nat, k ≤ X.length ∧ i = .int .i64 k ∧ Row3 wr w5.heap.size wr.heap.size 51 s (turL (X.take k)) ∧ Below w5.heap.size w5 wr) (fun _ i _ => X.length - (intOf i).toNat)
    case atStart => exact ⟨0, Nat.zero_le _, rfl, hrow0, hb0⟩
    case round =>
      obtain ⟨k, hk, rfl, hrow, hb⟩ := hrel
      have kr := k5.trans (hb.mono k5.size)
      clear hrow0 hb0
      by_cases hlt : k < X.length
      · obtain ⟨ad, p, rfl, hp, hab, h0', h1', h2'⟩ := t3_cells (rd_n HR.out kr) hlt
        have HT := Lib.hid (turL_snoc X hlt)
        have hln : (turL (X.take k)).length ≤ 5 := by unfold turL; rw [List.length_map, List.length_take]; omega
        obtain ⟨x, hx⟩ : ∃ x, x = X[k] := ⟨_, rfl⟩
        rw [← hx] at h0' h1' h2' HT
        obtain ⟨Y, hY⟩ : ∃ Y, Y = turL (X.take k) := ⟨_, rfl⟩
        rw [← hY] at HT hln hrow
        have i0' : (0 : Int) ≤ (k : Int) := by omega
        have i1' : (k : Int) < (X.length : Int) := by omega
        have b3 : Below wr.heap.size wr ((wr.alloc (Obj.cells #[.int .i64 x.1, .int .i64 x.2.2, .int .i64 x.2.1] 51)).drew) := ((Below.refl wr.heap.size wr).alloc (Nat.le_refl _) _).drew
        have HMADE := Lib.hid (show Rd ((wr.alloc (Obj.cells #[.int .i64 x.1, .int .i64 x.2.2, .int .i64 x.2.1] 51)).drew) _ _ (t3s [turB x]) from Rd.made wr #[.int .i64 x.1, .int .i64 x.2.2, .int .i64 x.2.1] 51)
        have HROW := Lib.hid (row3_new hrow b3)
        have HSZ := Lib.hid hb.size
        clear hx hY hrow
        go_wp2_with fail
        go_region_law ((refine step_app3 (m := 1) (Y := [turB x]) rfl (.tmp 38) (.tmp 55) 46 rfl 51 i0 _ 24 Try.underlying46 hi ii0 ii1 ii2 rfl rfl rfl HROW.out rfl HMADE.out (by unfold maxLen; omega) (by omega) (by have := HSZ.out; simp; omega) ?_; intro v9 w9 hrow9 ho9))
        all_goals
          have hb9 : Below w5.heap.size ((wr.alloc (Obj.cells #[.int .i64 x.1, .int .i64 x.2.2, .int .i64 x.2.1] 51)).drew) w9 := ho9.below (Nat.le_refl _) (by have := HSZ.out; simp; omega)
          go_wp2
          go_roundw
          case rel => exact ⟨k + 1, by omega, by go_num, by rw [HT.out]; exact hrow9, (hb.trans (b3.mono HSZ.out)).trans hb9⟩
          case measure => simp [intOf]; omega
      · have e : k = X.length := by omega
        subst e
        rw [List.take_of_length_le (Nat.le_refl _)] at hrow
        obtain ⟨V1, hV1⟩ : ∃ V, votN X 1 = V := ⟨_, rfl⟩
        obtain ⟨V2, hV2⟩ : ∃ V, votN X 2 = V := ⟨_, rfl⟩
        have v1 := votN_pos X 1
        have v2 := votN_pos X 2
        rw [hV1] at v1
        rw [hV2] at v2
        have hsum := vot_sum hv.2
        rw [hV1, hV2] at hsum
        have hdv := (dec_vot (l := X) (by rw [HD.out]; exact hDz)).2
        rw [hV1, hV2, HD.out] at hdv
        have HTD := Lib.hid (show decN (turL X) = 3 - D by rw [← HD.out]; exact dec_tur (by rw [HD.out]; exact hDz))
        have wD := IntWalk.i64_in (3 - D) (by have := hD12; omega)
        have hws := IntWalk.i64_in (V1 + V2) (by omega)
        obtain ⟨At, ct, rfl, hrt, _, _⟩ := hrow.rd (n := X.length) (by simp [turL])
        have HRT := Lib.hid hrt
        clear hrt
        have hDT : (3 - D != 3 - D) = false := by simp
        have hnn : ((X.length : Int) != (X.length : Int)) = false := by simp
        have HV := Lib.hid (And.intro hV1 hV2)
        clear hrow hV1 hV2
        go_wp2_with fail
        refine (impDecision_any (X := turL X) (Lib.hid (by simp [turL])) (by omega) (HRT.out.more (Nat.le_refl _))).mono ?_
        rintro e wt ⟨rfl, rt⟩
        rw [HTD.out]
        replace kr := kr.trans (rt.mono kr.size)
        go_wp2_with fail
        refine (impVotesFor_any (X := X) (Lib.hid rfl) (by omega) (rd_n HR.out kr)).mono ?_
        rintro e wa ⟨rfl, ra⟩
        rw [HV.out.1]
        have ka := kr.trans (ra.mono kr.size)
        go_wp2_with fail
        refine (impVotesFor_any (X := X) (Lib.hid rfl) (by omega) (rd_n HR.out ka)).mono ?_
        rintro e wb ⟨rfl, rb⟩
        rw [HV.out.2]
        have kb := ka.trans (rb.mono ka.size)
        clear ra rb
        by_cases t1 : V2 < V1
        · obtain rfl := hdv.1 t1
          by_cases g1 : 0 < V1
          · by_cases g2 : 0 < V2
            · have HSP := Lib.hid (show splB X = true by rw [spl_2 (by rw [HV.out.1]; exact g1), HV.out.2, decide_eq_true g2])
              go_wp2_with fail
              go_at_call 52
              refine (drawSum_any (HC.out.below (b2.trans (kb.mono b2.size)))).mono ?_
              rintro e wc ⟨v9, X9, q9, rfl, hrow9, hx9, rc⟩
              obtain ⟨A9, c9, rfl, hrd9, _, _⟩ := hrow9.rd (n := X9.length) rfl
              have HR9 := Lib.hid hrd9
              have kc := kb.trans (rc.mono kb.size)
              clear hrow9 hrd9 rc
              go_wp2_with fail
              refine (impSumFor_any (X := X9) (q := q9) (Lib.hid rfl) (by omega) HR9.out).mono ?_
              rintro e wd ⟨rfl, rd⟩
              have hs9 := sum_pos X9 q9
              obtain ⟨S9, hS9⟩ : ∃ S, sumN X9 q9 = S := ⟨_, rfl⟩
              rw [hS9] at hs9 ⊢
              have kd := kc.trans (rd.mono kc.size)
              clear rd hS9
              go_wp2_with fail
              refine (impIsSplit_any (X := X) (Lib.hid rfl) (by omega) (rd_n HR.out kd)).mono ?_
              rintro e we ⟨rfl, re⟩
              rw [HSP.out]
              have ke := kd.trans (re.mono kd.size)
              go_wp2_with fail
              go_ret
              exact ⟨by first | rfl | (show Ending.returned (.bool (!decide (0 < V2))) = _; rw [decide_eq_false (show ¬ 0 < V2 by omega)]; rfl), b2.trans (ke.mono b2.size)⟩
            · have HSP := Lib.hid (show splB X = false by rw [spl_2 (by rw [HV.out.1]; exact g1), HV.out.2, decide_eq_false g2])
              go_wp2_with fail
              go_at_call 52
              refine (drawSum_any (HC.out.below (b2.trans (kb.mono b2.size)))).mono ?_
              rintro e wc ⟨v9, X9, q9, rfl, hrow9, hx9, rc⟩
              obtain ⟨A9, c9, rfl, hrd9, _, _⟩ := hrow9.rd (n := X9.length) rfl
              have HR9 := Lib.hid hrd9
              have kc := kb.trans (rc.mono kb.size)
              clear hrow9 hrd9 rc
              go_wp2_with fail
              refine (impSumFor_any (X := X9) (q := q9) (Lib.hid rfl) (by omega) HR9.out).mono ?_
              rintro e wd ⟨rfl, rd⟩
              have hs9 := sum_pos X9 q9
              obtain ⟨S9, hS9⟩ : ∃ S, sumN X9 q9 = S := ⟨_, rfl⟩
              rw [hS9] at hs9 ⊢
              have kd := kc.trans (rd.mono kc.size)
              clear rd hS9
              go_wp2_with fail
              refine (impIsSplit_any (X := X) (Lib.hid rfl) (by omega) (rd_n HR.out kd)).mono ?_
              rintro e we ⟨rfl, re⟩
              rw [HSP.out]
              have ke := kd.trans (re.mono kd.size)
              go_wp2_with fail
              go_ret
              exact ⟨by first | rfl | (show Ending.returned (.bool (!decide (0 < V2))) = _; rw [decide_eq_false (show ¬ 0 < V2 by omega)]; rfl), b2.trans (ke.mono b2.size)⟩
          · exfalso; omega
        · by_cases t2 : V1 < V2
          · obtain rfl := hdv.2 t2
            by_cases g1 : 0 < V1
            · by_cases g2 : 0 < V2
              · have HSP := Lib.hid (show splB X = true by rw [spl_2 (by rw [HV.out.1]; exact g1), HV.out.2, decide_eq_true g2])
                go_wp2_with fail
                go_at_call 52
                refine (drawSum_any (HC.out.below (b2.trans (kb.mono b2.size)))).mono ?_
                rintro e wc ⟨v9, X9, q9, rfl, hrow9, hx9, rc⟩
                obtain ⟨A9, c9, rfl, hrd9, _, _⟩ := hrow9.rd (n := X9.length) rfl
                have HR9 := Lib.hid hrd9
                have kc := kb.trans (rc.mono kb.size)
                clear hrow9 hrd9 rc
                go_wp2_with fail
                refine (impSumFor_any (X := X9) (q := q9) (Lib.hid rfl) (by omega) HR9.out).mono ?_
                rintro e wd ⟨rfl, rd⟩
                have hs9 := sum_pos X9 q9
                obtain ⟨S9, hS9⟩ : ∃ S, sumN X9 q9 = S := ⟨_, rfl⟩
                rw [hS9] at hs9 ⊢
                have kd := kc.trans (rd.mono kc.size)
                clear rd hS9
                go_wp2_with fail
                refine (impIsSplit_any (X := X) (Lib.hid rfl) (by omega) (rd_n HR.out kd)).mono ?_
                rintro e we ⟨rfl, re⟩
                rw [HSP.out]
                have ke := kd.trans (re.mono kd.size)
                go_wp2_with fail
                go_ret
                exact ⟨by first | rfl | (show Ending.returned (.bool (!decide (0 < V2))) = _; rw [decide_eq_false (show ¬ 0 < V2 by omega)]; rfl), b2.trans (ke.mono b2.size)⟩
              · exfalso; omega
            · have HSP := Lib.hid (show splB X = false by rw [spl_1 (by rw [HV.out.1]; exact g1)])
              go_wp2_with fail
              go_at_call 52
              refine (drawSum_any (HC.out.below (b2.trans (kb.mono b2.size)))).mono ?_
              rintro e wc ⟨v9, X9, q9, rfl, hrow9, hx9, rc⟩
              obtain ⟨A9, c9, rfl, hrd9, _, _⟩ := hrow9.rd (n := X9.length) rfl
              have HR9 := Lib.hid hrd9
              have kc := kb.trans (rc.mono kb.size)
              clear hrow9 hrd9 rc
              go_wp2_with fail
              refine (impSumFor_any (X := X9) (q := q9) (Lib.hid rfl) (by omega) HR9.out).mono ?_
              rintro e wd ⟨rfl, rd⟩
              have hs9 := sum_pos X9 q9
              obtain ⟨S9, hS9⟩ : ∃ S, sumN X9 q9 = S := ⟨_, rfl⟩
              rw [hS9] at hs9 ⊢
              have kd := kc.trans (rd.mono kc.size)
              clear rd hS9
              go_wp2_with fail
              refine (impIsSplit_any (X := X) (Lib.hid rfl) (by omega) (rd_n HR.out kd)).mono ?_
              rintro e we ⟨rfl, re⟩
              rw [HSP.out]
              have ke := kd.trans (re.mono kd.size)
              go_wp2_with fail
              go_ret
              exact ⟨by first | rfl | (show Ending.returned (.bool (!decide (0 < V2))) = _; rw [decide_eq_false (show ¬ 0 < V2 by omega)]; rfl), b2.trans (ke.mono b2.size)⟩
          · have hlp := hv.1
            by_cases g1 : 0 < V1
            · by_cases g2 : 0 < V2
              · have HSP := Lib.hid (show splB X = true by rw [spl_2 (by rw [HV.out.1]; exact g1), HV.out.2, decide_eq_true g2])
                go_wp2_with fail
                go_at_call 52
                refine (drawSum_any (HC.out.below (b2.trans (kb.mono b2.size)))).mono ?_
                rintro e wc ⟨v9, X9, q9, rfl, hrow9, hx9, rc⟩
                obtain ⟨A9, c9, rfl, hrd9, _, _⟩ := hrow9.rd (n := X9.length) rfl
                have HR9 := Lib.hid hrd9
                have kc := kb.trans (rc.mono kb.size)
                clear hrow9 hrd9 rc
                go_wp2_with fail
                refine (impSumFor_any (X := X9) (q := q9) (Lib.hid rfl) (by omega) HR9.out).mono ?_
                rintro e wd ⟨rfl, rd⟩
                have hs9 := sum_pos X9 q9
                obtain ⟨S9, hS9⟩ : ∃ S, sumN X9 q9 = S := ⟨_, rfl⟩
                rw [hS9] at hs9 ⊢
                have kd := kc.trans (rd.mono kc.size)
                clear rd hS9
                go_wp2_with fail
                refine (impIsSplit_any (X := X) (Lib.hid rfl) (by omega) (rd_n HR.out kd)).mono ?_
                rintro e we ⟨rfl, re⟩
                rw [HSP.out]
                have ke := kd.trans (re.mono kd.size)
                go_wp2_with fail
                go_ret
                exact ⟨by first | rfl | (show Ending.returned (.bool (!decide (0 < V2))) = _; rw [decide_eq_false (show ¬ 0 < V2 by omega)]; rfl), b2.trans (ke.mono b2.size)⟩
              · exfalso; omega
            · exfalso; omega
  · have hD0 : D = 0 := by
      rw [← HD.out]
      by_cases h0 : X.length = 0
      · exact dec_no0 h0
      · refine dec_noB ?_
        rw [← Bool.not_eq_true]
        exact fun hb => hv ⟨by omega, hb⟩
    subst hD0
    by_cases h0 : X.length = 0
    · obtain rfl : X = [] := List.eq_nil_of_length_eq_zero h0
      clear h0 hv
      have hb0 := alloc_new' w4 (Obj.cells #[] 51)
      go_wp2_with fail
      go_loopw [5, 6] (fun s i wr => i = .int .i64 0 ∧ Below w4.heap.size w4 wr) (fun _ i _ => 0 - (intOf i).toNat)
      case atStart => exact ⟨rfl, hb0⟩
      case round =>
        obtain ⟨rfl, hb⟩ := hrel
        have kr := k4.trans (hb.mono k4.size)
        have hrow := hb0
        clear hb0
        obtain ⟨V1, hV1⟩ : ∃ V, votN [] 1 = V := ⟨_, rfl⟩
        obtain ⟨V2, hV2⟩ : ∃ V, votN [] 2 = V := ⟨_, rfl⟩
        have v1 := votN_pos [] 1
        have v2 := votN_pos [] 2
        rw [hV1] at v1
        rw [hV2] at v2
        have HV := Lib.hid (And.intro hV1 hV2)
        clear hrow hV1 hV2
        go_wp2_with fail
        refine (impVotesFor_any (X := []) (n := 0) (Lib.hid rfl) (by omega) (rd_n HR.out kr)).mono ?_
        rintro e wa ⟨rfl, ra⟩
        rw [HV.out.1]
        have ka := kr.trans (ra.mono kr.size)
        go_wp2_with fail
        refine (impVotesFor_any (X := []) (n := 0) (Lib.hid rfl) (by omega) (rd_n HR.out ka)).mono ?_
        rintro e wb ⟨rfl, rb⟩
        rw [HV.out.2]
        have kb := ka.trans (rb.mono ka.size)
        clear ra rb
        by_cases g1 : 0 < V1
        · by_cases g2 : 0 < V2
          · have HSP := Lib.hid (show splB [] = true by rw [spl_2 (by rw [HV.out.1]; exact g1), HV.out.2, decide_eq_true g2])
            go_wp2_with fail
            go_at_call 52
            refine (drawSum_any (HC.out.below (b2.trans (kb.mono b2.size)))).mono ?_
            rintro e wc ⟨v9, X9, q9, rfl, hrow9, hx9, rc⟩
            obtain ⟨A9, c9, rfl, hrd9, _, _⟩ := hrow9.rd (n := X9.length) rfl
            have HR9 := Lib.hid hrd9
            have kc := kb.trans (rc.mono kb.size)
            clear hrow9 hrd9 rc
            go_wp2_with fail
            refine (impSumFor_any (X := X9) (q := q9) (Lib.hid rfl) (by omega) HR9.out).mono ?_
            rintro e wd ⟨rfl, rd⟩
            have hs9 := sum_pos X9 q9
            obtain ⟨S9, hS9⟩ : ∃ S, sumN X9 q9 = S := ⟨_, rfl⟩
            rw [hS9] at hs9 ⊢
            have kd := kc.trans (rd.mono kc.size)
            clear rd hS9
            go_wp2_with fail
            refine (impIsSplit_any (X := []) (n := 0) (Lib.hid rfl) (by omega) (rd_n HR.out kd)).mono ?_
            rintro e we ⟨rfl, re⟩
            rw [HSP.out]
            have ke := kd.trans (re.mono kd.size)
            go_wp2_with fail
            go_ret
            exact ⟨by first | rfl | (show Ending.returned (.bool (!decide (0 < V2))) = _; rw [decide_eq_false (show ¬ 0 < V2 by omega)]; rfl), b2.trans (ke.mono b2.size)⟩
          · have HSP := Lib.hid (show splB [] = false by rw [spl_2 (by rw [HV.out.1]; exact g1), HV.out.2, decide_eq_false g2])
            go_wp2_with fail
            go_at_call 52
            refine (drawSum_any (HC.out.below (b2.trans (kb.mono b2.size)))).mono ?_
            rintro e wc ⟨v9, X9, q9, rfl, hrow9, hx9, rc⟩
            obtain ⟨A9, c9, rfl, hrd9, _, _⟩ := hrow9.rd (n := X9.length) rfl
            have HR9 := Lib.hid hrd9
            have kc := kb.trans (rc.mono kb.size)
            clear hrow9 hrd9 rc
            go_wp2_with fail
            refine (impSumFor_any (X := X9) (q := q9) (Lib.hid rfl) (by omega) HR9.out).mono ?_
            rintro e wd ⟨rfl, rd⟩
            have hs9 := sum_pos X9 q9
            obtain ⟨S9, hS9⟩ : ∃ S, sumN X9 q9 = S := ⟨_, rfl⟩
            rw [hS9] at hs9 ⊢
            have kd := kc.trans (rd.mono kc.size)
            clear rd hS9
            go_wp2_with fail
            refine (impIsSplit_any (X := []) (n := 0) (Lib.hid rfl) (by omega) (rd_n HR.out kd)).mono ?_
            rintro e we ⟨rfl, re⟩
            rw [HSP.out]
            have ke := kd.trans (re.mono kd.size)
            go_wp2_with fail
            go_ret
            exact ⟨by first | rfl | (show Ending.returned (.bool (!decide (0 < V2))) = _; rw [decide_eq_false (show ¬ 0 < V2 by omega)]; rfl), b2.trans (ke.mono b2.size)⟩
        · have HSP := Lib.hid (show splB [] = false by rw [spl_1 (by rw [HV.out.1]; exact g1)])
          go_wp2_with fail
          go_at_call 52
          refine (drawSum_any (HC.out.below (b2.trans (kb.mono b2.size)))).mono ?_
          rintro e wc ⟨v9, X9, q9, rfl, hrow9, hx9, rc⟩
          obtain ⟨A9, c9, rfl, hrd9, _, _⟩ := hrow9.rd (n := X9.length) rfl
          have HR9 := Lib.hid hrd9
          have kc := kb.trans (rc.mono kb.size)
          clear hrow9 hrd9 rc
          go_wp2_with fail
          refine (impSumFor_any (X := X9) (q := q9) (Lib.hid rfl) (by omega) HR9.out).mono ?_
          rintro e wd ⟨rfl, rd⟩
          have hs9 := sum_pos X9 q9
          obtain ⟨S9, hS9⟩ : ∃ S, sumN X9 q9 = S := ⟨_, rfl⟩
          rw [hS9] at hs9 ⊢
          have kd := kc.trans (rd.mono kc.size)
          clear rd hS9
          go_wp2_with fail
          refine (impIsSplit_any (X := []) (n := 0) (Lib.hid rfl) (by omega) (rd_n HR.out kd)).mono ?_
          rintro e we ⟨rfl, re⟩
          rw [HSP.out]
          have ke := kd.trans (re.mono kd.size)
          go_wp2_with fail
          go_ret
          exact ⟨by first | rfl | (show Ending.returned (.bool (!decide (0 < V2))) = _; rw [decide_eq_false (show ¬ 0 < V2 by omega)]; rfl), b2.trans (ke.mono b2.size)⟩
    · have hl0 : decide ((0 : Int) < (X.length : Int)) = true := decide_eq_true (by omega)
      have HB := Lib.hid (show bsB X = false by rw [← Bool.not_eq_true]; exact fun hb => hv ⟨by omega, hb⟩)
      clear hv
      go_wp2_with fail
      refine (impAreBallots_any (X := X) (Lib.hid rfl) (by omega) (rd_n HR.out k4)).mono ?_
      rintro e w5 ⟨rfl, r⟩
      rw [HB.out]
      have k5 := k4.trans (r.mono k4.size)
      clear r k4
      have hb0 := alloc_new' w5 (Obj.cells #[] 51)
      have hrow0 : Row3 (w5.alloc (Obj.cells #[] 51)) w5.heap.size (w5.alloc (Obj.cells #[] 51)).heap.size 51 (.slice (some ⟨w5.heap.size, 0, none⟩) 0 0) [] := (Row3.made (w := w5) w5.heap.size #[] 0 (Nat.le_refl _) rfl rfl (Nat.zero_le _)).wide (Nat.le_refl _) (by simp)
      go_wp2_with fail
      go_loopw [5, 6] (fun s i wr => ∃ k : Nat, k ≤ X.length ∧ i = .int .i64 k ∧ Row3 wr w5.heap.size wr.heap.size 51 s (turL (X.take k)) ∧ Below w5.heap.size w5 wr) (fun _ i _ => X.length - (intOf i).toNat)
      case atStart => exact ⟨0, Nat.zero_le _, rfl, hrow0, hb0⟩
      case round =>
        obtain ⟨k, hk, rfl, hrow, hb⟩ := hrel
        have kr := k5.trans (hb.mono k5.size)
        clear hrow0 hb0
        by_cases hlt : k < X.length
        · obtain ⟨ad, p, rfl, hp, hab, h0', h1', h2'⟩ := t3_cells (rd_n HR.out kr) hlt
          have HT := Lib.hid (turL_snoc X hlt)
          have hln : (turL (X.take k)).length ≤ 5 := by unfold turL; rw [List.length_map, List.length_take]; omega
          obtain ⟨x, hx⟩ : ∃ x, x = X[k] := ⟨_, rfl⟩
          rw [← hx] at h0' h1' h2' HT
          obtain ⟨Y, hY⟩ : ∃ Y, Y = turL (X.take k) := ⟨_, rfl⟩
          rw [← hY] at HT hln hrow
          have i0' : (0 : Int) ≤ (k : Int) := by omega
          have i1' : (k : Int) < (X.length : Int) := by omega
          have b3 : Below wr.heap.size wr ((wr.alloc (Obj.cells #[.int .i64 x.1, .int .i64 x.2.2, .int .i64 x.2.1] 51)).drew) := ((Below.refl wr.heap.size wr).alloc (Nat.le_refl _) _).drew
          have HMADE := Lib.hid (show Rd ((wr.alloc (Obj.cells #[.int .i64 x.1, .int .i64 x.2.2, .int .i64 x.2.1] 51)).drew) _ _ (t3s [turB x]) from Rd.made wr #[.int .i64 x.1, .int .i64 x.2.2, .int .i64 x.2.1] 51)
          have HROW := Lib.hid (row3_new hrow b3)
          have HSZ := Lib.hid hb.size
          clear hx hY hrow
          go_wp2_with fail
          go_region_law ((refine step_app3 (m := 1) (Y := [turB x]) rfl (.tmp 38) (.tmp 55) 46 rfl 51 i0 _ 24 Try.underlying46 hi ii0 ii1 ii2 rfl rfl rfl HROW.out rfl HMADE.out (by unfold maxLen; omega) (by omega) (by have := HSZ.out; simp; omega) ?_; intro v9 w9 hrow9 ho9))
          all_goals
            have hb9 : Below w5.heap.size ((wr.alloc (Obj.cells #[.int .i64 x.1, .int .i64 x.2.2, .int .i64 x.2.1] 51)).drew) w9 := ho9.below (Nat.le_refl _) (by have := HSZ.out; simp; omega)
            go_wp2
            go_roundw
            case rel => exact ⟨k + 1, by omega, by go_num, by rw [HT.out]; exact hrow9, (hb.trans (b3.mono HSZ.out)).trans hb9⟩
            case measure => simp [intOf]; omega
        · have e : k = X.length := by omega
          subst e
          rw [List.take_of_length_le (Nat.le_refl _)] at hrow
          obtain ⟨V1, hV1⟩ : ∃ V, votN X 1 = V := ⟨_, rfl⟩
          obtain ⟨V2, hV2⟩ : ∃ V, votN X 2 = V := ⟨_, rfl⟩
          have v1 := votN_pos X 1
          have v2 := votN_pos X 2
          rw [hV1] at v1
          rw [hV2] at v2
          have HV := Lib.hid (And.intro hV1 hV2)
          clear hrow hV1 hV2
          go_wp2_with fail
          refine (impVotesFor_any (X := X) (Lib.hid rfl) (by omega) (rd_n HR.out kr)).mono ?_
          rintro e wa ⟨rfl, ra⟩
          rw [HV.out.1]
          have ka := kr.trans (ra.mono kr.size)
          go_wp2_with fail
          refine (impVotesFor_any (X := X) (Lib.hid rfl) (by omega) (rd_n HR.out ka)).mono ?_
          rintro e wb ⟨rfl, rb⟩
          rw [HV.out.2]
          have kb := ka.trans (rb.mono ka.size)
          clear ra rb
          by_cases g1 : 0 < V1
          · by_cases g2 : 0 < V2
            · have HSP := Lib.hid (show splB X = true by rw [spl_2 (by rw [HV.out.1]; exact g1), HV.out.2, decide_eq_true g2])
              go_wp2_with fail
              go_at_call 52
              refine (drawSum_any (HC.out.below (b2.trans (kb.mono b2.size)))).mono ?_
              rintro e wc ⟨v9, X9, q9, rfl, hrow9, hx9, rc⟩
              obtain ⟨A9, c9, rfl, hrd9, _, _⟩ := hrow9.rd (n := X9.length) rfl
              have HR9 := Lib.hid hrd9
              have kc := kb.trans (rc.mono kb.size)
              clear hrow9 hrd9 rc
              go_wp2_with fail
              refine (impSumFor_any (X := X9) (q := q9) (Lib.hid rfl) (by omega) HR9.out).mono ?_
              rintro e wd ⟨rfl, rd⟩
              have hs9 := sum_pos X9 q9
              obtain ⟨S9, hS9⟩ : ∃ S, sumN X9 q9 = S := ⟨_, rfl⟩
              rw [hS9] at hs9 ⊢
              have kd := kc.trans (rd.mono kc.size)
              clear rd hS9
              go_wp2_with fail
              refine (impIsSplit_any (X := X) (Lib.hid rfl) (by omega) (rd_n HR.out kd)).mono ?_
              rintro e we ⟨rfl, re⟩
              rw [HSP.out]
              have ke := kd.trans (re.mono kd.size)
              go_wp2_with fail
              go_ret
              exact ⟨by first | rfl | (show Ending.returned (.bool (!decide (0 < V2))) = _; rw [decide_eq_false (show ¬ 0 < V2 by omega)]; rfl), b2.trans (ke.mono b2.size)⟩
            · have HSP := Lib.hid (show splB X = false by rw [spl_2 (by rw [HV.out.1]; exact g1), HV.out.2, decide_eq_false g2])
              go_wp2_with fail
              go_at_call 52
              refine (drawSum_any (HC.out.below (b2.trans (kb.mono b2.size)))).mono ?_
              rintro e wc ⟨v9, X9, q9, rfl, hrow9, hx9, rc⟩
              obtain ⟨A9, c9, rfl, hrd9, _, _⟩ := hrow9.rd (n := X9.length) rfl
              have HR9 := Lib.hid hrd9
              have kc := kb.trans (rc.mono kb.size)
              clear hrow9 hrd9 rc
              go_wp2_with fail
              refine (impSumFor_any (X := X9) (q := q9) (Lib.hid rfl) (by omega) HR9.out).mono ?_
              rintro e wd ⟨rfl, rd⟩
              have hs9 := sum_pos X9 q9
              obtain ⟨S9, hS9⟩ : ∃ S, sumN X9 q9 = S := ⟨_, rfl⟩
              rw [hS9] at hs9 ⊢
              have kd := kc.trans (rd.mono kc.size)
              clear rd hS9
              go_wp2_with fail
              refine (impIsSplit_any (X := X) (Lib.hid rfl) (by omega) (rd_n HR.out kd)).mono ?_
              rintro e we ⟨rfl, re⟩
              rw [HSP.out]
              have ke := kd.trans (re.mono kd.size)
              go_wp2_with fail
              go_ret
              exact ⟨by first | rfl | (show Ending.returned (.bool (!decide (0 < V2))) = _; rw [decide_eq_false (show ¬ 0 < V2 by omega)]; rfl), b2.trans (ke.mono b2.size)⟩
          · have HSP := Lib.hid (show splB X = false by rw [spl_1 (by rw [HV.out.1]; exact g1)])
            go_wp2_with fail
            go_at_call 52
            refine (drawSum_any (HC.out.below (b2.trans (kb.mono b2.size)))).mono ?_
            rintro e wc ⟨v9, X9, q9, rfl, hrow9, hx9, rc⟩
            obtain ⟨A9, c9, rfl, hrd9, _, _⟩ := hrow9.rd (n := X9.length) rfl
            have HR9 := Lib.hid hrd9
            have kc := kb.trans (rc.mono kb.size)
            clear hrow9 hrd9 rc
            go_wp2_with fail
            refine (impSumFor_any (X := X9) (q := q9) (Lib.hid rfl) (by omega) HR9.out).mono ?_
            rintro e wd ⟨rfl, rd⟩
            have hs9 := sum_pos X9 q9
            obtain ⟨S9, hS9⟩ : ∃ S, sumN X9 q9 = S := ⟨_, rfl⟩
            rw [hS9] at hs9 ⊢
            have kd := kc.trans (rd.mono kc.size)
            clear rd hS9
            go_wp2_with fail
            refine (impIsSplit_any (X := X) (Lib.hid rfl) (by omega) (rd_n HR.out kd)).mono ?_
            rintro e we ⟨rfl, re⟩
            rw [HSP.out]
            have ke := kd.trans (re.mono kd.size)
            go_wp2_with fail
            go_ret
            exact ⟨by first | rfl | (show Ending.returned (.bool (!decide (0 < V2))) = _; rw [decide_eq_false (show ¬ 0 < V2 by omega)]; rfl), b2.trans (ke.mono b2.size)⟩
end Go.Proofs.Ytngelnkpoojgfaa
