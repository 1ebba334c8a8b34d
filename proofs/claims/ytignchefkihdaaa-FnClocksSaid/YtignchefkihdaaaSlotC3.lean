/- Contracts of the code's TotalUsed, BellsAt, Speak. Condition: the slice has at most 2^40 elements. -/
import Derived.Test.YtignchefkihdaaaSlotC2
namespace Go.Proofs.Ytignchefkihdaaa
open Go.ChangeShapes Go.WideShapes Go.ChangeAt Go.RowKit
set_option maxRecDepth 100000
theorem totP_usd (q : Int) (x : T3) : totP q x = if x.1 = q then usdN x else 0 := by
  unfold totP usdN
  by_cases h : x.1 = q
  · rw [if_pos h]; cases slB x <;> simp [h]
  · rw [if_neg h, if_neg (fun k => h k.1)]
theorem usdN_pos (x : T3) : 0 ≤ usdN x ∧ usdN x ≤ 1015 := by
  unfold usdN
  split
  · rename_i h
    obtain ⟨_, ⟨b1, b2⟩, k1, k2⟩ := sl_parts h
    omega
  · omega
theorem tot_snoc2 (X : List T3) (w : Int) {k : Nat} (hk : k < X.length) : totN (X.take (k + 1)) w = totN (X.take k) w + totP w X[k] := by
  unfold totN
  rw [List.take_succ_eq_append_getElem hk, List.foldl_append]
  rfl
set_option maxHeartbeats 4000000 in
theorem impTotalUsed_any {w : World} {A : Option Addr} {n c : Nat} {q : Int} {X : List T3} (hl : Hid (X.length = n)) (hn : n ≤ 1099511627776) (hr : Rd w w.heap.size A (t3s X)) :
    Calls Try.prog 44 #[.slice A n c, .int .i64 q] w (fun e w' => e = .returned (.int .i64 (totN X q)) ∧ Below w.heap.size w w') := by
  go_enter Try.func44, Try.ntmps44
  go_wp2_with fail
  go_loopw [5, 11] (fun s i wr => ∃ (k : Nat) (t : Int), k ≤ n ∧ i = .int .i64 k ∧ s = .int .i64 t ∧ Hid (t = totN (X.take k) q) ∧ (0 ≤ t ∧ t ≤ 1015 * (k : Int)) ∧ Below w.heap.size w wr) (fun _ i _ => n - (intOf i).toNat)
  case atStart => exact ⟨0, 0, Nat.zero_le _, rfl, rfl, Lib.hid rfl, by omega, Below.refl _ _⟩
  case round =>
    obtain ⟨k, t, hk, rfl, rfl, ht, htb, hb⟩ := hrel
    by_cases hlt : k < n
    · have hkz : k < X.length := by rw [hl.out]; exact hlt
      obtain ⟨ad, p, rfl, hp, hab, h0, h1, h2⟩ := t3_cells ((hr.below hb).more hb.size) hkz
      have HS := Lib.hid (tot_snoc2 X q hkz)
      obtain ⟨x, hx⟩ : ∃ x, x = X[k] := ⟨_, rfl⟩
      rw [← hx] at h0 h1 h2 HS
      have i0 : (0 : Int) ≤ (k : Int) := by omega
      have i1 : (k : Int) < (n : Int) := by omega
      obtain ⟨W1, hW, bx, hb1, hz⟩ := box3 wr 53 (.int .i64 x.1) (.int .i64 x.2.1) (.int .i64 x.2.2)
      obtain ⟨W2, hW2, bx2, hb2, hz2⟩ := box3 W1 120 (.int .i64 x.1) (.int .i64 x.2.1) (.int .i64 x.2.2)
      have HW := Lib.hid (show (wr.alloc (Obj.cells #[Value.int .i64 x.1, .int .i64 x.2.1, .int .i64 x.2.2] 53)).alloc (Obj.cells #[Value.int .i64 x.1, .int .i64 x.2.1, .int .i64 x.2.2] 120) = W2 by rw [hW, hW2])
      obtain ⟨c0, c1, c2⟩ := bx.cells3 (Below.refl _ _)
      rw [← hW] at c0 c1 c2
      rw [hz] at bx2
      obtain ⟨d0, d1, d2⟩ := bx2.cells3 (Below.refl _ _)
      have qq := hb1.trans (hb2.mono hb1.size)
      clear hx hW hW2 hz hz2 bx bx2 hb1 hb2
      by_cases hw : x.1 = q
      · have hq : (x.1 == q) = true := by simpa using hw
        have hu := usdN_pos x
        have HV := Lib.hid (show totP q x = usdN x by rw [totP_usd, if_pos hw])
        obtain ⟨U, hU⟩ : ∃ U, U = usdN x := ⟨_, rfl⟩
        rw [← hU] at hu HV
        have HU := Lib.hid (show usdN (x.1, x.2.1, x.2.2) = U from hU.symm)
        have hws := IntWalk.i64_in (t + U) (by omega)
        clear hU hw
        go_wp2_with fail
        rw [HW.out]
        go_wp2_with fail
        refine (readUsed_any).mono ?_
        rintro e u ⟨rfl, r⟩
        rw [HU.out]
        have q2 := qq.trans (r.mono qq.size)
        go_wp2_with fail
        go_roundw
        case rel => exact ⟨k + 1, t + U, by omega, by go_num, rfl, Lib.hid (by rw [HS.out, HV.out, ht.out]), by omega, hb.trans (q2.mono hb.size)⟩
        case measure => simp [intOf]; omega
      · have hq : (x.1 == q) = false := by simpa using hw
        have HV := Lib.hid (show totP q x = 0 by rw [totP_usd, if_neg hw])
        clear hw
        go_wp2_with fail
        rw [HW.out]
        go_wp2_with fail
        go_roundw
        case rel => exact ⟨k + 1, t, by omega, by go_num, rfl, Lib.hid (by rw [HS.out, HV.out, ht.out]; omega), by omega, hb.trans (qq.mono hb.size)⟩
        case measure => simp [intOf]; omega
    · have e : k = n := by omega
      subst e
      have HT := Lib.hid (show t = totN X q by rw [ht.out, List.take_of_length_le (by rw [hl.out]; exact Nat.le_refl _)])
      go_wp2_with fail
      go_ret
      exact ⟨ret_i HT.out, hb⟩
section
variable {w : World} {a b c n : Int}
set_option maxHeartbeats 4000000 in
theorem impBellsAt_any : Calls Try.prog 41 #[.agg #[.int .i64 a, .int .i64 b, .int .i64 c]] w (Fresh 3 (ivs (belL (a, b, c))) w) := by
  obtain ⟨i0, hi, hz0, hz1, hz2⟩ := info_parts IntS_info
  obtain ⟨W1, hW, bx, hb1, hz⟩ := box3 w 53 (.int .i64 a) (.int .i64 b) (.int .i64 c)
  obtain ⟨W2, hW2, bx2, hb2, hz2'⟩ := box3 W1 120 (.int .i64 a) (.int .i64 b) (.int .i64 c)
  have HW := Lib.hid hW
  have HW2 := Lib.hid hW2
  obtain ⟨c0, c1, c2⟩ := bx.cells3 (Below.refl _ _)
  rw [hz] at bx2
  have k0 := alloc_new W2 (Obj.cells #[] 3)
  have hrow0 := Row.made (w := W2) W2.heap.size #[] 0 3 (Nat.le_refl _) rfl (Nat.zero_le _)
  have q2 := hb1.trans (hb2.mono hb1.size)
  have q3 := q2.trans (k0.mono q2.size)
  obtain ⟨d0, d1, d2⟩ := bx2.cells3 k0
  have hzz : W2.heap.size = w.heap.size + 2 := by omega
  obtain ⟨W3, hW3⟩ : ∃ u : World, u = W2.alloc (Obj.cells #[] 3) := ⟨_, rfl⟩
  have hz3 : W3.heap.size = W2.heap.size + 1 := by rw [hW3]; simp
  have HW3 := Lib.hid hW3.symm
  rw [← hW3] at k0 hrow0 q3 d0 d1 d2
  have bx3 := bx2.new k0
  rw [show W2.heap.size = w.heap.size + 1 + 1 by omega] at hrow0
  have h33 : w.heap.size + 3 ≤ W3.heap.size := by omega
  clear hW hW2 hz hW3 hb1 hb2 bx bx2 hz2' hz3 hzz
  have hrow3 := hrow0
  have HZ3 := Lib.hid hrow3
  have HX3 := Lib.hid bx3
  clear hrow0 hrow3 bx3
  go_enter Try.func41, Try.ntmps41
  go_wp2_with fail
  rw [HW.out]
  go_wp2_with fail
  rw [HW2.out]
  go_wp2_with fail
  rw [HW3.out]
  refine (clkRight_any).mono ?_
  rintro e u ⟨he, r⟩
  have q := q3.trans (r.mono q3.size)
  have hqs := q.size
  have hu3 : w.heap.size + 3 ≤ u.heap.size := by have := r.size; omega
  have hrow := HZ3.out.new (r.mono (Nat.le_refl _))
  have bxu := HX3.out.new r
  obtain ⟨m0, m1, m2⟩ := bxu.cells3 (Below.refl _ _)
  cases hs : slB (a, b, c) with
  | false =>
    rw [hs] at he
    subst he
    have HV := Lib.hid (belL_no hs)
    clear hs
    go_wp2_with fail
    go_ret
    exact ⟨_, rfl, by rw [HV.out]; exact hrow.wide (by omega) (by omega), q⟩
  | true =>
    rw [hs] at he
    subst he
    obtain ⟨_, ⟨b1, b2⟩, _⟩ := sl_parts hs
    simp only at b1 b2
    by_cases hl : 120 < b
    · have HV := Lib.hid (bel_yes hs hl)
      have k1 := alloc_new u (Obj.cells #[Value.int .i64 60, Value.int .i64 (b - 60)] 3)
      have HROW := Lib.hid (hrow.new k1)
      have HM := Lib.hid (Rd.made u #[Value.int .i64 60, Value.int .i64 (b - 60)] 3)
      have HXU := Lib.hid bxu
      clear hs hrow bxu
      go_wp2_with (at_builtin; refine wpList_app (news := [.int .i64 60, .int .i64 (b - 60)]) (m := 2) rfl (.tmp 14) (.tmp 18) 25 rfl 3 i0 _ 8 Try.underlying25 hi hz0 hz1 hz2 rfl rfl rfl HROW.out rfl HM.out (by simp [Value.oneCell']) (by simp [maxLen]) (by simp) (by simp; omega) ?_; intro v1 w4 hrow4 ho4; obtain ⟨A4, c4, rfl, _, _, _⟩ := hrow4.rd (n := 2) rfl)
      have q4 : Below w.heap.size w w4 := (q.trans (k1.mono hqs)).trans (ho4.below (by omega) (by simp; omega))
      have hu4 : w.heap.size + 3 ≤ w4.heap.size := by have := ho4.size; simp at this; omega
      have bx4 : Bx w4 (w.heap.size + 1) 120 #[.int .i64 a, .int .i64 b, .int .i64 c] := (ho4.block _ (by have := HXU.out.lt; simp; omega) (.inl (Nat.lt_succ_self _))).trans (HXU.out.new k1)
      have hq4 := q4.size
      have L2 := Lib.hid (show (([.int .i64 60, .int .i64 (b - 60)] : List Value)).length + 2 ≤ maxLen ∧ (([.int .i64 60, .int .i64 (b - 60)] : List Value).length + 2) * 8 ≤ 140737488355328 by simp [maxLen])
      have HR4 := Lib.hid hrow4
      have HX4 := Lib.hid bx4
      obtain ⟨e0, e1, e2⟩ := bx4.cells3 (Below.refl _ _)
      clear hrow4 bx4
      go_wp2_with fail
      go_region_law (first
        | (go_simp; go_at_call 104; refine (clkEnd_any (by omega) (by omega)).mono ?_; rintro e u9 ⟨rfl, r9⟩; have p9 : Below w4.heap.size w4 u9 := (by first | exact r9 | exact (Below.refl _ _).drew.trans r9); obtain ⟨j0, j1, j2⟩ := HX4.out.cells3 p9; have k9 := alloc_new u9 (Obj.cells #[Value.int .i64 b, Value.int .i64 (b + 15)] 3); have HR9 := Lib.hid ((HR4.out.new p9).new k9); have HM9 := Lib.hid (Rd.made u9 #[Value.int .i64 b, Value.int .i64 (b + 15)] 3))
        | (refine step_app (news := [.int .i64 b, .int .i64 (b + 15)]) (B := u9.heap.size + 1) (A := some ⟨u9.heap.size, 0, none⟩) (m := 2) (c := 2) rfl (.tmp 20) (.tmp 25) 25 rfl 3 i0 (.int .i64 0) 8 Try.underlying25 hi hz0 hz1 hz2 rfl (by simp [Act.eval]; try rfl) (by simp [Act.eval]) HR9.out rfl HM9.out (by simp [Value.oneCell']) L2.out.1 L2.out.2 (by have := p9.size; simp; omega) ?_; intro v8 w8 hrow8 ho8))
      all_goals
        have q9 := q4.trans (p9.mono hq4)
        go_wp2_with fail
        go_ret
        refine ⟨_, rfl, ?_, (q9.trans (k9.mono q9.size)).trans (ho8.below (by omega) (by have := q9.size; simp; omega))⟩
        rw [HV.out]
        exact hrow8.wide (by omega) (Nat.le_refl _)
    · have HV := Lib.hid (bel_low hs hl)
      have q4 : Below w.heap.size w u := q
      clear hs
      have hq4 := q4.size
      have L2 := Lib.hid (show (([] : List Value)).length + 2 ≤ maxLen ∧ (([] : List Value).length + 2) * 8 ≤ 140737488355328 by simp [maxLen])
      have HR4 := Lib.hid hrow
      have HX4 := Lib.hid bxu
      obtain ⟨e0, e1, e2⟩ := bxu.cells3 (Below.refl _ _)
      clear hrow bxu
      go_wp2_with fail
      go_region_law (first
        | (go_simp; go_at_call 104; refine (clkEnd_any (by omega) (by omega)).mono ?_; rintro e u9 ⟨rfl, r9⟩; have p9 : Below u.heap.size u u9 := (by first | exact r9 | exact (Below.refl _ _).drew.trans r9); obtain ⟨j0, j1, j2⟩ := HX4.out.cells3 p9; have k9 := alloc_new u9 (Obj.cells #[Value.int .i64 b, Value.int .i64 (b + 15)] 3); have HR9 := Lib.hid ((HR4.out.new p9).new k9); have HM9 := Lib.hid (Rd.made u9 #[Value.int .i64 b, Value.int .i64 (b + 15)] 3))
        | (refine step_app (news := [.int .i64 b, .int .i64 (b + 15)]) (B := u9.heap.size + 1) (A := some ⟨u9.heap.size, 0, none⟩) (m := 2) (c := 2) rfl (.tmp 20) (.tmp 25) 25 rfl 3 i0 (.int .i64 0) 8 Try.underlying25 hi hz0 hz1 hz2 rfl (by simp [Act.eval]; try rfl) (by simp [Act.eval]) HR9.out rfl HM9.out (by simp [Value.oneCell']) L2.out.1 L2.out.2 (by have := p9.size; simp; omega) ?_; intro v8 w8 hrow8 ho8))
      all_goals
        have q9 := q4.trans (p9.mono hq4)
        go_wp2_with fail
        go_ret
        refine ⟨_, rfl, ?_, (q9.trans (k9.mono q9.size)).trans (ho8.below (by omega) (by have := q9.size; simp; omega))⟩
        rw [HV.out]
        exact hrow8.wide (by omega) (Nat.le_refl _)
set_option maxHeartbeats 4000000 in
theorem impSpeak_any : Calls Try.prog 37 #[.agg #[.int .i64 a, .int .i64 b, .int .i64 c], .int .i64 n] w (fun e w' => e = .returned (.tuple #[.agg #[.int .i64 (spkS (a, b, c) n).1, .int .i64 (spkS (a, b, c) n).2.1, .int .i64 (spkS (a, b, c) n).2.2], .int .i64 (spkK (a, b, c) n)]) ∧ Below w.heap.size w w') := by
  obtain ⟨W1, hW1, bx1, hb1, hz1⟩ := box3 w 53 (.int .i64 a) (.int .i64 b) (.int .i64 c)
  obtain ⟨W2, hW2, bx2, hb2, hz2⟩ := box3 W1 53 (.int .i64 0) (.int .i64 0) (.int .i64 0)
  obtain ⟨W3, hW3, bx3, hb3, hz3⟩ := box3 W2 120 (.int .i64 a) (.int .i64 b) (.int .i64 c)
  have HW := Lib.hid (show (w.alloc (Obj.cells #[Value.int .i64 a, .int .i64 b, .int .i64 c] 53)).alloc (Obj.cells #[Value.int .i64 0, .int .i64 0, .int .i64 0] 53) = W2 by rw [hW1, hW2])
  have HW3 := Lib.hid hW3
  have b1 := bx1.new hb2
  have hb12 := hb1.trans (hb2.mono hb1.size)
  have hb := hb12.trans (hb3.mono hb12.size)
  obtain ⟨c0, c1, c2⟩ := b1.cells3 (Below.refl _ _)
  obtain ⟨o0, o1, o2⟩ := b1.cells3 hb3
  have bs3 := b1.new hb3
  have br3 := bx2.new hb3
  rw [hz1] at bx2 br3
  rw [show W2.heap.size = w.heap.size + 2 by omega] at bx3
  have h33 : w.heap.size + 3 ≤ W3.heap.size := by omega
  obtain ⟨l0, l1, l2⟩ := bx3.cells3 (Below.refl _ _)
  clear hW1 hW2 hW3 bx1 hb1 hb2 hb3 hb12 hz1 hz2 hz3 bx2
  go_enter Try.func37, Try.ntmps37
  go_wp2_with fail
  rw [HW.out]
  go_wp2_with fail
  rw [HW3.out]
  go_wp2_with fail
  refine (clkRight_any).mono ?_
  rintro e u ⟨he, r⟩
  have q := hb.trans (r.mono hb.size)
  have bsu := bs3.new r
  have bu := br3.new r
  have bcu := bx3.new r
  obtain ⟨d0, d1, d2⟩ := bsu.cells3 (Below.refl _ _)
  obtain ⟨g0, g1, g2⟩ := bu.cells3 (Below.refl _ _)
  have f0 := bu.free 0
  have f1 := bu.free 1
  have f2 := bu.free 2
  cases hs : slB (a, b, c) with
  | false =>
    rw [hs] at he
    subst he
    have HV := Lib.hid (spk_no (s := (a, b, c)) (n := n) (by rw [hs]; rfl))
    have HS := Lib.hid (spkS_no (s := (a, b, c)) (n := n) (by rw [hs]; rfl))
    clear hs
    go_wp2_with fail
    have hq := below_sets3 q (g := w.heap.size + 1) (x := .int .i64 a) (y := .int .i64 b) (z := .int .i64 c) (by omega)
    obtain ⟨e0, e1, e2⟩ := (bu.sets3 (x := .int .i64 a) (y := .int .i64 b) (z := .int .i64 c)).cells3 (Below.refl _ _)
    refine bodyPost_ret (v := .tuple #[.agg #[.int .i64 a, .int .i64 b, .int .i64 c], .int .i64 0]) (by simp [results, Try.results37, go_sem, e0, e1, e2]) rfl ⟨?_, hq⟩
    rw [HV.out, HS.out]
  | true =>
    rw [hs] at he
    subst he
    by_cases hn : n < 0
    · have HV := Lib.hid (spk_no (s := (a, b, c)) (n := n) (by rw [hs, decide_eq_false (by omega)]; rfl))
      have HS := Lib.hid (spkS_no (s := (a, b, c)) (n := n) (by rw [hs, decide_eq_false (by omega)]; rfl))
      clear hs
      go_wp2_with fail
      have hq := below_sets3 q (g := w.heap.size + 1) (x := .int .i64 a) (y := .int .i64 b) (z := .int .i64 c) (by omega)
      obtain ⟨e0, e1, e2⟩ := (bu.sets3 (x := .int .i64 a) (y := .int .i64 b) (z := .int .i64 c)).cells3 (Below.refl _ _)
      refine bodyPost_ret (v := .tuple #[.agg #[.int .i64 a, .int .i64 b, .int .i64 c], .int .i64 0]) (by simp [results, Try.results37, go_sem, e0, e1, e2]) rfl ⟨?_, hq⟩
      rw [HV.out, HS.out]
    · obtain ⟨_, ⟨p1, p2⟩, k1, k2⟩ := sl_parts hs
      simp only at p1 p2 k1 k2
      have HV := Lib.hid (spk_yes (s := (a, b, c)) hs (show 0 ≤ n by omega))
      have hwr : IntKind.i64.wrap (b + 15 - c) = b + 15 - c := IntWalk.i64_in _ (by omega)
      have HWR := Lib.hid hwr
      have hk0 : 0 ≤ mn n (b + 15 - c) ∧ mn n (b + 15 - c) ≤ 1015 := by unfold mn; split <;> omega
      obtain ⟨K, hK⟩ : ∃ K, K = mn n (b + 15 - c) := ⟨_, rfl⟩
      rw [← hK] at hk0
      have HK := Lib.hid hK.symm
      have HV2 := Lib.hid (show spkK (a, b, c) n = K by rw [HV.out, hK])
      have HS2 := Lib.hid (show spkS (a, b, c) n = (a, b, c + K) by unfold spkS; rw [HV2.out])
      have KE := fun (v : World) (q : Below u.heap.size u v) => show Below u.heap.size u v ∧ v.cell? ⟨w.heap.size + 2, 0, none⟩ = some (.int .i64 a) ∧ v.cell? ⟨w.heap.size + 2, 1, none⟩ = some (.int .i64 b) ∧ v.cell? ⟨w.heap.size + 2, 2, none⟩ = some (.int .i64 c) from ⟨q, bcu.cells3 q⟩
      clear hs hK
      obtain ⟨x0, x1, x2⟩ := bcu.cells3 (Below.refl _ _)
      go_wp2_with fail
      refine wp_region_quiet (C := fun v => Below u.heap.size u v ∧ v.cell? ⟨w.heap.size + 2, 0, none⟩ = some (.int .i64 a) ∧ v.cell? ⟨w.heap.size + 2, 1, none⟩ = some (.int .i64 b) ∧ v.cell? ⟨w.heap.size + 2, 2, none⟩ = some (.int .i64 c)) (by kernel_rfl) (by kernel_rfl) (KE _ (Below.refl u.heap.size u).drew) ?_
      rw [List.toList_toArray]
      go_big_quiet_want
      go_big_quiet_op
      go_big_quiet_on
      go_big_quiet_want
      apply Exists.intro
      refine ⟨fun u hu => ?_, ?_⟩
      · obtain ⟨hu0, hu1, hu2, hu3⟩ := hu
        unfold Oper.quietAt
        go_simp
        try rfl
      simp only [Act.put, List.setIfInBounds_toArray, List.set_cons_zero, List.set_cons_succ]
      go_big_quiet_on
      go_big_quiet_want
      refine ⟨.int .i64 (b + 15), fun u hu => ?_, ?_⟩
      · obtain ⟨hu0, hu1, hu2, hu3⟩ := hu
        unfold Oper.quietAt
        go_simp
        refine (clkEnd_any (by omega) (by omega)).mono ?_
        rintro e u9 ⟨he, hb9⟩
        exact ⟨he, KE _ (trans_new hu0 hb9)⟩
      simp only [Act.put, List.setIfInBounds_toArray, List.set_cons_zero, List.set_cons_succ]
      go_big_quiet_on
      go_big_quiet_want
      apply Exists.intro
      refine ⟨fun u hu => ?_, ?_⟩
      · obtain ⟨hu0, hu1, hu2, hu3⟩ := hu
        unfold Oper.quietAt
        go_simp
        try rfl
      simp only [Act.put, List.setIfInBounds_toArray, List.set_cons_zero, List.set_cons_succ]
      go_big_quiet_on
      go_big_quiet_want
      apply Exists.intro
      refine ⟨fun u hu => ?_, ?_⟩
      · obtain ⟨hu0, hu1, hu2, hu3⟩ := hu
        unfold Oper.quietAt
        go_simp
        try rfl
      simp only [Act.put, List.setIfInBounds_toArray, List.set_cons_zero, List.set_cons_succ]
      go_big_quiet_on
      go_big_quiet_want
      apply Exists.intro
      refine ⟨fun u hu => ?_, ?_⟩
      · obtain ⟨hu0, hu1, hu2, hu3⟩ := hu
        unfold Oper.quietAt
        go_simp
        try rfl
      simp only [Act.put, List.setIfInBounds_toArray, List.set_cons_zero, List.set_cons_succ]
      go_big_quiet_on
      go_big_quiet_want
      refine ⟨.int .i64 K, fun u hu => ?_, ?_⟩
      · obtain ⟨hu0, hu1, hu2, hu3⟩ := hu
        unfold Oper.quietAt
        go_simp
        refine (min_any _ _ _).mono ?_
        rintro e u9 ⟨he, rfl⟩
        (try rw [HWR.out] at he)
        rw [HK.out] at he
        exact ⟨he, KE _ (hu0.alloc hu0.size _)⟩
      simp only [Act.put, List.setIfInBounds_toArray, List.set_cons_zero, List.set_cons_succ]
      go_big_quiet_on
      go_big_quiet_want
      go_big_quiet_op
      go_big_quiet_on
      refine wpQuiet_nil ?_
      rintro v ⟨kv, y0, y1, y2⟩
      have qv := q.trans (kv.mono q.size)
      have bcv := bcu.new kv
      have buv := bu.new kv
      have fv := bcv.free 2
      have bs := bcv.set 2 (.int .i64 (c + K))
      have bt := buv.far (p := ⟨w.heap.size + 2, 2, none⟩) (by show w.heap.size + 1 ≠ w.heap.size + 2; omega) (.int .i64 (c + K))
      have qs := qv.setCell (p := ⟨w.heap.size + 2, 2, none⟩) (by show w.heap.size ≤ w.heap.size + 2; omega) (.int .i64 (c + K))
      obtain ⟨Ws, hWs⟩ : ∃ z : World, z = v.setCell ⟨w.heap.size + 2, 2, none⟩ (.int .i64 (c + K)) := ⟨_, rfl⟩
      rw [← hWs] at bs bt qs
      obtain ⟨n0, n1, n2⟩ := Bx.cells3 (a := .int .i64 a) (b := .int .i64 b) (c := .int .i64 (c + K)) bs (Below.refl _ _)
      obtain ⟨t0, t1, t2⟩ := bt.cells3 (Below.refl _ _)
      have f0' := bt.free 0
      have f1' := bt.free 1
      have f2' := bt.free 2
      have hWs' := hWs.symm
      clear hWs
      go_wp2_with fail
      have hq := below_sets3 qs (g := w.heap.size + 1) (x := .int .i64 a) (y := .int .i64 b) (z := .int .i64 (c + K)) (by omega)
      obtain ⟨e0, e1, e2⟩ := (bt.sets3 (x := .int .i64 a) (y := .int .i64 b) (z := .int .i64 (c + K))).cells3 (Below.refl _ _)
      refine bodyPost_ret (v := .tuple #[.agg #[.int .i64 a, .int .i64 b, .int .i64 (c + K)], .int .i64 K]) (by simp [results, Try.results37, go_sem, e0, e1, e2]) rfl ⟨?_, hq⟩
      rw [HV2.out, HS2.out]
end
end Go.Proofs.Ytignchefkihdaaa
