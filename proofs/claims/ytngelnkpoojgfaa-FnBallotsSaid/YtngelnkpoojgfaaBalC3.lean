/- Contracts of the code of chapter 16: sumsOf, VotesFor, SumFor, IsSplit. Condition: the slice has at most 2^40 elements. -/
import Derived.Test.YtngelnkpoojgfaaBalC2
namespace Go.Proofs.Ytngelnkpoojgfaa
open Go.ChangeShapes Go.WideShapes Go.ChangeAt Go.RowKit
set_option maxRecDepth 100000
theorem cntO_le (X : List T3) (q : Int) (k : Nat) : 0 ≤ cntO (X.take k) q ∧ cntO (X.take k) q ≤ (k : Int) := by
  unfold cntO
  have := List.length_filter_le (fun b => ofB b == q) (X.take k)
  have h2 : (X.take k).length ≤ k := by simp; omega
  omega
theorem sumF_le {X : List T3} (q : Int) (k : Nat) (h : ∀ b ∈ X, blB b = true) : 0 ≤ sumF (X.take k) q ∧ sumF (X.take k) q ≤ 100 * (k : Int) := by
  unfold sumF
  have h1 := sum_from q (l := X.take k) (fun b hb => h b (List.mem_of_mem_take hb)) 0
  have h2 : (X.take k).length ≤ k := by simp; omega
  omega
theorem votN_no {X : List T3} (q : Int) (h : bsB X = false) : votN X q = 0 := by unfold votN; rw [h]; rfl
theorem sumN_no {X : List T3} (q : Int) (h : bsB X = false) : sumN X q = 0 := by unfold sumN; rw [h]; rfl
theorem votN_yes {X : List T3} (q : Int) (h : bsB X = true) : votN X q = cntO X q := by unfold votN; rw [h]; rfl
theorem sumN_yes {X : List T3} (q : Int) (h : bsB X = true) : sumN X q = sumF X q := by unfold sumN; rw [h]; rfl
set_option maxHeartbeats 8000000 in
theorem sumsOf_any {w : World} {A : Option Addr} {n c : Nat} {X : List T3} (hl : Hid (X.length = n)) (hn : n ≤ 1099511627776) (hr : Rd w w.heap.size A (t3s X)) :
    Calls Try.prog 74 #[.slice A n c] w (fun e w' => e = .returned (.agg #[.int .i64 (votN X 1), .int .i64 (votN X 2), .int .i64 (sumN X 1), .int .i64 (sumN X 2)]) ∧ Below w.heap.size w w') := by
  obtain ⟨W1, hW1, bx1, hb1, hz1⟩ := box4 w 80 (.int .i64 0) (.int .i64 0) (.int .i64 0) (.int .i64 0)
  obtain ⟨W2, hW2, bx2, hb2, hz2⟩ := box4 W1 80 (.int .i64 0) (.int .i64 0) (.int .i64 0) (.int .i64 0)
  have HW := Lib.hid (show (w.alloc (Obj.cells #[Value.int .i64 0, .int .i64 0, .int .i64 0, .int .i64 0] 80)).alloc (Obj.cells #[Value.int .i64 0, .int .i64 0, .int .i64 0, .int .i64 0] 80) = W2 by rw [hW1, hW2])
  have hb := hb1.trans (hb2.mono hb1.size)
  have bR := bx1.new hb2
  rw [hz1] at bx2
  have HR := Lib.hid hr
  clear hW1 hW2 hz1 hz2 hb1 hb2 bx1 hr
  go_enter Try.func74, Try.ntmps74
  go_wp2_with fail
  rw [HW.out]
  try (go_wp2_with fail)
  refine (impAreBallots_any hl hn ((HR.out.below hb).more hb.size)).mono ?_
  rintro e w1 ⟨rfl, r⟩
  have q := hb.trans (r.mono hb.size)
  have r0 := bR.new r
  have s0 := bx2.new r
  clear hb r bR bx2
  cases hB : bsB X with
  | false =>
    have V1 := Lib.hid (votN_no 1 hB)
    have V2 := Lib.hid (votN_no 2 hB)
    have S1 := Lib.hid (sumN_no 1 hB)
    have S2 := Lib.hid (sumN_no 2 hB)
    clear hB
    obtain ⟨m0, m1, m2, m3⟩ := r0.cells4 (Below.refl _ _)
    obtain ⟨n0, n1, n2, n3⟩ := s0.cells4 (Below.refl _ _)
    have x0 := r0.free 0
    have x1 := r0.free 1
    have x2 := r0.free 2
    have x3 := r0.free 3
    go_wp2_with fail
    have hq := below_sets4 q (g := w.heap.size) (x := .int .i64 0) (y := .int .i64 0) (z := .int .i64 0) (u := .int .i64 0) (by omega)
    obtain ⟨y0, y1, y2, y3⟩ := (r0.sets4 (x := .int .i64 0) (y := .int .i64 0) (z := .int .i64 0) (u := .int .i64 0)).cells4 (Below.refl _ _)
    refine bodyPost_ret (v := .agg #[.int .i64 0, .int .i64 0, .int .i64 0, .int .i64 0]) (by simp [results, Try.results74, go_sem, y0, y1, y2, y3]) rfl ⟨?_, hq⟩
    rw [V1.out, V2.out, S1.out, S2.out]
  | true =>
    have hn9 := bs_len hB
    rw [hl.out] at hn9
    have V1 := Lib.hid (votN_yes 1 hB)
    have V2 := Lib.hid (votN_yes 2 hB)
    have S1 := Lib.hid (sumN_yes 1 hB)
    have S2 := Lib.hid (sumN_yes 2 hB)
    have HM := Lib.hid (bs_mem hB)
    clear hB
    have hqs := q.size
    go_wp2_with fail
    go_loopw [13] (fun i wr => ∃ (k : Nat) (v1 v2 p1 p2 : Int), k ≤ n ∧ i = .int .i64 k ∧ Hid (v1 = cntO (X.take k) 1 ∧ v2 = cntO (X.take k) 2 ∧ p1 = sumF (X.take k) 1 ∧ p2 = sumF (X.take k) 2) ∧ Bx wr w.heap.size 80 #[.int .i64 0, .int .i64 0, .int .i64 0, .int .i64 0] ∧ Bx wr (w.heap.size + 1) 80 #[.int .i64 v1, .int .i64 v2, .int .i64 p1, .int .i64 p2] ∧ Below w.heap.size w wr) (fun i _ => n - (intOf i).toNat)
    case atStart => exact ⟨0, 0, 0, 0, 0, Nat.zero_le _, rfl, Lib.hid ⟨rfl, rfl, rfl, rfl⟩, r0, s0, q⟩
    case round =>
      obtain ⟨k, v1, v2, p1, p2, hk, rfl, hv, rk, sk, hb⟩ := hrel
      clear r0 s0 q hqs
      have hsz := hb.size
      by_cases hlt : k < n
      · have hkz : k < X.length := by rw [hl.out]; exact hlt
        obtain ⟨ad, p, rfl, hp, hab, h0, h1, h2⟩ := t3_cells ((HR.out.below hb).more hsz) hkz
        have i0 : (0 : Int) ≤ (k : Int) := by omega
        have i1 : (k : Int) < (n : Int) := by omega
        have e1 := cntO_le X 1 k
        have e2 := cntO_le X 2 k
        have e3 := sumF_le 1 k HM.out
        have e4 := sumF_le 2 k HM.out
        rw [← hv.out.1] at e1
        rw [← hv.out.2.1] at e2
        rw [← hv.out.2.2.1] at e3
        rw [← hv.out.2.2.2] at e4
        have HX := Lib.hid (HM.out X[k] (List.getElem_mem _))
        have T1 := Lib.hid (cntO_snoc X 1 hkz)
        have T2 := Lib.hid (cntO_snoc X 2 hkz)
        have T3' := Lib.hid (sumF_snoc X 1 hkz)
        have T4 := Lib.hid (sumF_snoc X 2 hkz)
        obtain ⟨x, hx⟩ : ∃ x, x = X[k] := ⟨_, rfl⟩
        rw [← hx] at h0 h1 h2 HX T1 T2 T3' T4
        clear hx
        obtain ⟨W3, hW3, bx3, hb3, hz3⟩ := box3 wr 51 (.int .i64 x.1) (.int .i64 x.2.1) (.int .i64 x.2.2)
        have HW3 := Lib.hid hW3
        have rk3 := rk.new hb3
        have sk3 := sk.new hb3
        have hb4 := hb.trans (hb3.mono hsz)
        obtain ⟨n0, n1, n2, n3⟩ := sk3.cells4 (Below.refl _ _)
        obtain ⟨c0, c1, c2⟩ := bx3.cells3 (Below.refl _ _)
        rw [← hW3] at n0 n1 n2 n3 c0 c1 c2
        clear hW3 hz3 rk sk hb3 bx3
        go_wp2_with fail
        rw [HW3.out]
        try (go_wp2_with fail)
        refine (plus_any (a := x.1) (b := x.2.1) (c := x.2.2) (v1 := v1) (v2 := v2) (p1 := p1) (p2 := p2) HX.out (by omega) (by omega) (by omega) (by omega)).mono ?_
        rintro e w5 ⟨rfl, r⟩
        have rk5 := rk3.new r
        have sk5 := sk3.new r
        have hb5 := hb4.trans (r.mono hb4.size)
        have J := Lib.hid (show (v1 + if ofB (x.1, x.2.1, x.2.2) = 1 then 1 else 0) = cntO (X.take (k + 1)) 1 ∧ (v2 + if ofB (x.1, x.2.1, x.2.2) = 2 then 1 else 0) = cntO (X.take (k + 1)) 2 ∧ p1 + x.2.1 = sumF (X.take (k + 1)) 1 ∧ p2 + x.2.2 = sumF (X.take (k + 1)) 2 from ⟨by rw [T1.out, hv.out.1], by rw [T2.out, hv.out.2.1], by rw [T3'.out, hv.out.2.2.1]; rfl, by rw [T4.out, hv.out.2.2.2]; rfl⟩)
        obtain ⟨u1, hu1⟩ : ∃ u, u = (v1 + if ofB (x.1, x.2.1, x.2.2) = 1 then 1 else 0) := ⟨_, rfl⟩
        obtain ⟨u2, hu2⟩ : ∃ u, u = (v2 + if ofB (x.1, x.2.1, x.2.2) = 2 then 1 else 0) := ⟨_, rfl⟩
        rw [← hu1, ← hu2] at J ⊢
        clear hu1 hu2 r rk3 sk3 n0 n1 n2 n3 c0 c1 c2 h0 h1 h2 e1 e2 e3 e4
        obtain ⟨n0, n1, n2, n3⟩ := sk5.cells4 (Below.refl _ _)
        have x0 := sk5.free 0
        have x1 := sk5.free 1
        have x2 := sk5.free 2
        have x3 := sk5.free 3
        have hq := below_sets4 hb5 (g := w.heap.size + 1) (x := .int .i64 u1) (y := .int .i64 u2) (z := .int .i64 (p1 + x.2.1)) (u := .int .i64 (p2 + x.2.2)) (by omega)
        have hs9 := sk5.sets4 (x := .int .i64 u1) (y := .int .i64 u2) (z := .int .i64 (p1 + x.2.1)) (u := .int .i64 (p2 + x.2.2))
        have hr9 := (((rk5.far (p := ⟨w.heap.size + 1, 0, none⟩) (by show w.heap.size ≠ w.heap.size + 1; omega) (.int .i64 u1)).far (p := ⟨w.heap.size + 1, 1, none⟩) (by show w.heap.size ≠ w.heap.size + 1; omega) (.int .i64 u2)).far (p := ⟨w.heap.size + 1, 2, none⟩) (by show w.heap.size ≠ w.heap.size + 1; omega) (.int .i64 (p1 + x.2.1))).far (p := ⟨w.heap.size + 1, 3, none⟩) (by show w.heap.size ≠ w.heap.size + 1; omega) (.int .i64 (p2 + x.2.2))
        have HQ := Lib.hid hq
        have HS9 := Lib.hid hs9
        have HR9 := Lib.hid hr9
        clear hq hs9 hr9
        go_wp2_with fail
        go_roundw
        case rel => exact ⟨k + 1, u1, u2, p1 + x.2.1, p2 + x.2.2, by omega, by go_num, J, HR9.out, HS9.out, HQ.out⟩
        case measure => simp [intOf]; omega
      · have e : k = n := by omega
        subst e
        have HT := Lib.hid (show votN X 1 = v1 ∧ votN X 2 = v2 ∧ sumN X 1 = p1 ∧ sumN X 2 = p2 by
          rw [V1.out, V2.out, S1.out, S2.out, hv.out.1, hv.out.2.1, hv.out.2.2.1, hv.out.2.2.2, List.take_of_length_le (by rw [hl.out]; exact Nat.le_refl _)]
          exact ⟨rfl, rfl, rfl, rfl⟩)
        obtain ⟨m0, m1, m2, m3⟩ := rk.cells4 (Below.refl _ _)
        obtain ⟨n0, n1, n2, n3⟩ := sk.cells4 (Below.refl _ _)
        have x0 := rk.free 0
        have x1 := rk.free 1
        have x2 := rk.free 2
        have x3 := rk.free 3
        go_wp2_with fail
        have hq := below_sets4 hb (g := w.heap.size) (x := .int .i64 v1) (y := .int .i64 v2) (z := .int .i64 p1) (u := .int .i64 p2) (by omega)
        obtain ⟨y0, y1, y2, y3⟩ := (rk.sets4 (x := .int .i64 v1) (y := .int .i64 v2) (z := .int .i64 p1) (u := .int .i64 p2)).cells4 (Below.refl _ _)
        refine bodyPost_ret (v := .agg #[.int .i64 v1, .int .i64 v2, .int .i64 p1, .int .i64 p2]) (by simp [results, Try.results74, go_sem, y0, y1, y2, y3]) rfl ⟨?_, hq⟩
        rw [HT.out.1, HT.out.2.1, HT.out.2.2.1, HT.out.2.2.2]
theorem cnt_vot (X : List T3) (q : Int) : cntF (votN X 1) (votN X 2) q = votN X q := by
  unfold cntF
  by_cases h1 : q = 1
  · rw [if_pos h1, h1]
  · by_cases h2 : q = 2
    · rw [if_neg h1, if_pos h2, h2]
    · rw [if_neg h1, if_neg h2]
      unfold votN
      split
      · have : (X.filter fun b => ofB b == q) = [] := by
          rw [List.filter_eq_nil_iff]
          intro b _
          have := of_two b
          simp
          omega
        rw [this]; rfl
      · rfl
theorem cnt_sum (X : List T3) (q : Int) : cntF (sumN X 1) (sumN X 2) q = sumN X q := by
  unfold cntF
  by_cases h1 : q = 1
  · rw [if_pos h1, h1]
  · by_cases h2 : q = 2
    · rw [if_neg h1, if_pos h2, h2]
    · rw [if_neg h1, if_neg h2]
      unfold sumN
      split
      · unfold sumF
        have : ∀ (Y : List T3) (n : Int), Y.foldl (fun n b => n + sumP q b) n = n := by
          intro Y
          induction Y with
          | nil => intro n; rfl
          | cons b Y ih =>
            intro n
            rw [List.foldl_cons, ih]
            unfold sumP
            rw [if_neg h1, if_neg h2]
            omega
        rw [this]
      · rfl
section
theorem fieldV {w : World} {a b c d : Int} : (Instr.field 80 (.agg #[.int .i64 a, .int .i64 b, .int .i64 c, .int .i64 d]) 0).run Try.prog w = .ok (.agg #[.int .i64 a, .int .i64 b]) w := by kernel_rfl
theorem fieldP {w : World} {a b c d : Int} : (Instr.field 80 (.agg #[.int .i64 a, .int .i64 b, .int .i64 c, .int .i64 d]) 1).run Try.prog w = .ok (.agg #[.int .i64 c, .int .i64 d]) w := by kernel_rfl
variable {w : World} {A : Option Addr} {n c : Nat} {q : Int} {X : List T3}
theorem impVotesFor_any (hl : Hid (X.length = n)) (hn : n ≤ 1099511627776) (hr : Rd w w.heap.size A (t3s X)) :
    Calls Try.prog 51 #[.slice A n c, .int .i64 q] w (fun e w' => e = .returned (.int .i64 (votN X q)) ∧ Below w.heap.size w w') := by
  have HV := Lib.hid (cnt_vot X q)
  go_enter Try.func51, Try.ntmps51
  go_wp2_with fail
  refine (sumsOf_any hl hn hr).mono ?_
  rintro e w1 ⟨rfl, r⟩
  have hf := fieldV (w := w1) (a := votN X 1) (b := votN X 2) (c := sumN X 1) (d := sumN X 2)
  go_wp2_with fail
  refine (countFor_any).mono ?_
  rintro e w2 ⟨rfl, r2⟩
  rw [HV.out]
  go_wp2_with fail
  go_ret
  exact ⟨rfl, r.trans (r2.mono r.size)⟩
theorem impSumFor_any (hl : Hid (X.length = n)) (hn : n ≤ 1099511627776) (hr : Rd w w.heap.size A (t3s X)) :
    Calls Try.prog 53 #[.slice A n c, .int .i64 q] w (fun e w' => e = .returned (.int .i64 (sumN X q)) ∧ Below w.heap.size w w') := by
  have HV := Lib.hid (cnt_sum X q)
  go_enter Try.func53, Try.ntmps53
  go_wp2_with fail
  refine (sumsOf_any hl hn hr).mono ?_
  rintro e w1 ⟨rfl, r⟩
  have hf := fieldP (w := w1) (a := votN X 1) (b := votN X 2) (c := sumN X 1) (d := sumN X 2)
  go_wp2_with fail
  refine (countFor_any).mono ?_
  rintro e w2 ⟨rfl, r2⟩
  rw [HV.out]
  go_wp2_with fail
  go_ret
  exact ⟨rfl, r.trans (r2.mono r.size)⟩
set_option maxHeartbeats 2000000 in
theorem impIsSplit_any (hl : Hid (X.length = n)) (hn : n ≤ 1099511627776) (hr : Rd w w.heap.size A (t3s X)) :
    Calls Try.prog 54 #[.slice A n c] w (Tells (splB X) w) := by
  obtain ⟨V1, hV1⟩ : ∃ V, votN X 1 = V := ⟨_, rfl⟩
  obtain ⟨V2, hV2⟩ : ∃ V, votN X 2 = V := ⟨_, rfl⟩
  have HD := Lib.hid (show splB X = (decide (0 < V1) && decide (0 < V2)) by unfold splB; rw [hV1, hV2])
  have HV1 := Lib.hid hV1
  have HV2 := Lib.hid hV2
  clear hV1 hV2
  by_cases g1 : 0 < V1
  · have HF := Lib.hid (show splB X = decide (0 < V2) by rw [HD.out, decide_eq_true g1, Bool.true_and])
    go_enter Try.func54, Try.ntmps54
    go_wp2_with fail
    refine (sumsOf_any hl hn hr).mono ?_
    rintro e w1 ⟨rfl, r⟩
    rw [HV1.out, HV2.out]
    have hf := fieldV (w := w1) (a := V1) (b := V2) (c := sumN X 1) (d := sumN X 2)
    go_wp2_with fail
    go_ret
    exact ⟨ret_b HF.out.symm, r.trans ((alloc_new' _ _).mono r.size)⟩
  · have HF := Lib.hid (show splB X = false by rw [HD.out, decide_eq_false g1, Bool.false_and])
    go_enter Try.func54, Try.ntmps54
    go_wp2_with fail
    refine (sumsOf_any hl hn hr).mono ?_
    rintro e w1 ⟨rfl, r⟩
    rw [HV1.out, HV2.out]
    have hf := fieldV (w := w1) (a := V1) (b := V2) (c := sumN X 1) (d := sumN X 2)
    go_wp2_with fail
    go_ret
    exact ⟨ret_b HF.out.symm, r.trans ((alloc_new' _ _).mono r.size)⟩
end
end Go.Proofs.Ytngelnkpoojgfaa
