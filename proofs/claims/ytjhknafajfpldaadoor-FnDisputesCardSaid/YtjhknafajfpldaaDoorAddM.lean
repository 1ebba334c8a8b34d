/- Contract of the model of AddAttack. Condition: the slices have at most 2^40 elements. -/
import Derived.Test.YtjhknafajfpldaaDoorMg11
namespace Go.Proofs.YtjhknafajfpldaaDoor
open Go.ChangeShapes Go.WideShapes Go.ChangeAt Go.RowKit
set_option maxRecDepth 100000
theorem pair_at2 {w : World} {B : Nat} {A : Option Addr} {X : List (List Int)} {m : Nat} (h : RdSS w B A X) (hp : Prs m X) {k : Nat} (hk : k < X.length) :
    ∃ (ad : Addr) (ag ao cj p q : Nat), A = some ad ∧ ad.block < B ∧ w.cell? (ad.add k) = some (.slice (some ⟨ag, ao, none⟩) 2 cj) ∧ w.cell? ⟨ag, ao, none⟩ = some (.int .i64 p) ∧ w.cell? ⟨ag, ao + 1, none⟩ = some (.int .i64 q) ∧ X[k] = [(p : Int), (q : Int)] ∧ Rd w B (some ⟨ag, ao, none⟩) (ivs [(p : Int), (q : Int)]) := by
  obtain ⟨ad, Aj, cj, rfl, hab, hc, _, _, hrd⟩ := h.at_ hk
  obtain ⟨p, q, hx, h1, h2⟩ := hp X[k] (List.getElem_mem hk)
  rw [hx] at hc hrd
  rw [show ([(p : Int), (q : Int)] : List Int).length = 2 from rfl] at hc
  obtain ⟨ag, ao, rfl, ha2, e0, e1⟩ := rd2 hrd
  exact ⟨ad, ag, ao, cj, p, q, rfl, hab, hc, e0, e1, hx, hrd⟩
def outT (a b : Int) (Y : List (List Int)) : List (List Int) := if Y.any (gtP · a b) then ins a b Y else Y
theorem outT_len (a b : Int) (Y : List (List Int)) : (outT a b Y).length ≤ Y.length + 1 := by
  unfold outT
  split
  · rw [ins_len]; exact Nat.le_refl _
  · omega
theorem outT_end (a b : Int) (Y : List (List Int)) (h : Y.any (gtP · a b) = true) : outT a b Y = ins a b Y := by unfold outT; rw [if_pos h]
theorem outT_not (a b : Int) (Y : List (List Int)) (h : Y.any (gtP · a b) = false) : outT a b Y ++ [[a, b]] = ins a b Y := by unfold outT; rw [h, ins_none h]; rfl
theorem outT_any {a b : Int} {Y : List (List Int)} {x : List Int} (h : Y.any (gtP · a b) = true) : outT a b (Y ++ [x]) = outT a b Y ++ [x] := by
  unfold outT
  rw [if_pos h, if_pos (by rw [List.any_append, h]; rfl), ins_snoc_any h]
theorem outT_no {a b : Int} {Y : List (List Int)} {x : List Int} (h : Y.any (gtP · a b) = false) (hx : gtP x a b = false) : outT a b (Y ++ [x]) = outT a b Y ++ [x] := by
  have h2 : (Y ++ [x]).any (gtP · a b) = false := by rw [List.any_append, h]; simp [hx]
  unfold outT
  rw [h, h2]
  rfl
theorem outT_yes {a b : Int} {Y : List (List Int)} {x : List Int} (h : Y.any (gtP · a b) = false) (hx : gtP x a b = true) : outT a b (Y ++ [x]) = outT a b Y ++ [[a, b]] ++ [x] := by
  have h2 : (Y ++ [x]).any (gtP · a b) = true := by rw [List.any_append]; simp [hx]
  unfold outT
  rw [h, if_pos h2, ins_first hx h]
  rfl
set_option maxHeartbeats 8000000 in
/-- A round of the model's loop, and what stands behind it. -/
theorem specAddLoop {w : World} {A : Option Addr} {n c m : Nat} {a b : Int} {X : List (List Int)} (hl : Hid (X.length = n)) (hn' : n ≤ 1099511627775) (hs : Hid (∀ x ∈ X, x.length ≤ 1099511627776)) (hr : RdSS w w.heap.size A X) (hg : gB m X = true) :
    Calls Tryd.prog 65 #[.agg #[.int .i64 m, .slice A n c], .int .i64 a, .int .i64 b] w (FreshGB m (addL m X a b) (canA m X a b) w) := by
  have hn : n ≤ 1099511627776 := by omega
  obtain ⟨i0, hi, hz0, hz1, hz2⟩ := info_parts IntS_info
  obtain ⟨m', e, hm, hP, _⟩ := gB_ok hg
  obtain rfl : m = m' := by omega
  obtain ⟨W1, hW, bx1, bx2, bx3, hb1, hs1⟩ := three_graphs w #[Value.int IntKind.i64 m, Value.slice A n c] #[Value.int IntKind.i64 0, Value.slice none 0 0] #[Value.int IntKind.i64 m, Value.slice none 0 0] 26
  have HG := Lib.hid hg
  have HP := Lib.hid hP
  have HR := Lib.hid (hr.below hb1)
  have HW := Lib.hid hW.symm
  clear hW hr hg hP
  go_enter Tryd.func65, Tryd.ntmps65
  go_wp2_with fail
  rw [HW.out]
  go_loopw [9, 10] (fun d i wr => ∃ (k : Nat) (dd : Bool) (v : Value), k ≤ n ∧ i = .int .i64 k ∧ d = .bool dd ∧ Bx wr (w.heap.size + 2) 26 #[Value.int IntKind.i64 m, v] ∧ OwnSS wr (w.heap.size + 3) wr.heap.size v (outT a b (X.take k)) ∧ Below (w.heap.size + 2) W1 wr ∧ Hid (dd = (X.take k).any (gtP · a b))) (fun _ i _ => n - (intOf i).toNat)
  case atStart => exact ⟨0, false, _, Nat.zero_le _, rfl, rfl, bx3, OwnSS.nil, Below.refl _ _, Lib.hid rfl⟩
  case round =>
    obtain ⟨k, dd, v, hk, rfl, rfl, bxv, hov, hbw, hdd⟩ := hrel
    have hsz := hbw.size
    have bxa : Bx wr w.heap.size 26 #[Value.int IntKind.i64 m, Value.slice A n c] := (hbw.block _ (by omega)).trans bx1
    have bxb : Bx wr (w.heap.size + 1) 26 #[Value.int IntKind.i64 0, Value.slice none 0 0] := (hbw.block _ (by omega)).trans bx2
    obtain ⟨C0, C1⟩ := bxa.two
    have hrk := HR.out.below (hbw.mono (by omega))
    have hbk := hb1.trans (hbw.mono (by omega))
    by_cases hlt : k < n
    · have hkz : k < X.length := by rw [hl.out]; exact hlt
      go_wp2_with fail
      refine (specIsGraph_any (N := m) (X := X) (c := c) hl hn (hrk.more (by omega))).mono ?_
      rintro e w3 ⟨rfl, hb3⟩
      rw [HG.out]
      have hs3 := hb3.size
      have hbq : Below (w.heap.size + 2) W1 w3 := hbw.trans (hb3.mono (by omega))
      have HB := Lib.hid (bxv.new hb3)
      have HO := Lib.hid ((hov.new hb3).wide (Nat.le_refl _) hs3)
      have bx13 := bxa.new hb3
      obtain ⟨E0, E1⟩ := bx13.two
      have hr3 := hrk.below (hb3.mono (by omega))
      obtain ⟨ad, ag, ao, cj, p, q, rfl, _, hc, e0, e1, hx, hrd⟩ := pair_at2 hr3 HP.out hkz
      have HJ := Lib.hid (List.take_succ_eq_append_getElem hkz)
      rw [hx] at HJ
      obtain ⟨Y, hY⟩ : ∃ Y, Y = X.take k := ⟨_, rfl⟩
      have hYl0 : Y.length ≤ k := by rw [hY]; simp; omega
      rw [← hY] at HO hdd HJ
      have hYl : (outT a b Y).length + 1 ≤ 1099511627777 := by have := outT_len a b Y; omega
      have HRD := Lib.hid hrd
      have HRx := Lib.hid (hrd.more (show w.heap.size ≤ w3.heap.size by omega))
      have hz3 : w.heap.size + 3 ≤ w3.heap.size := by omega
      have i0k : (0 : Int) ≤ (k : Int) := by omega
      clear hx hY hrd hov bxv hr3 hrk hbk bxb C0 C1 bxa bx13
      cases dd
      · have hno := hdd.out.symm
        by_cases h1 : a < (p : Int)
        · have hgt : gtP [(p : Int), (q : Int)] a b = true := by unfold gtP; simp [h1]
          have d1 : decide (a < (p : Int)) = true := decide_eq_true h1
          have HZ := Lib.hid (show outT a b (X.take (k + 1)) = outT a b Y ++ [[a, b]] ++ [[(p : Int), (q : Int)]] by rw [HJ.out]; exact outT_yes hno hgt)
          have HT := Lib.hid (show true = (X.take (k + 1)).any (gtP · a b) by rw [HJ.out, List.any_append]; simp [hgt])
          have HLN : Hid ((outT a b Y).length = Y.length) := Lib.hid (by unfold outT; rw [hno]; rfl)
          clear hno hgt hdd

          have hbl1 : Below w3.heap.size w3 (w3.alloc (Obj.cells #[Value.int .i64 a, .int .i64 b] 3)) := (Below.refl _ _).alloc (Nat.le_refl _) _
          have hbl2 : Below w3.heap.size w3 ((w3.alloc (Obj.cells #[Value.int .i64 a, .int .i64 b] 3)).alloc (Obj.cells #[Value.slice (some ⟨w3.heap.size, 0, none⟩) 2 2] 27)) := hbl1.alloc hbl1.size _
          have hown2 := HO.out.new hbl2
          have hrow2 := (Row.made (w := w3) w3.heap.size #[Value.int .i64 a, .int .i64 b] 2 3 (Nat.le_refl _) rfl (by decide)).new ((Below.refl _ _).alloc (Nat.le_refl _) (Obj.cells #[Value.slice (some ⟨w3.heap.size, 0, none⟩) 2 2] 27))
          have hr2 := Rd.made (w3.alloc (Obj.cells #[Value.int .i64 a, .int .i64 b] 3)) #[Value.slice (some ⟨w3.heap.size, 0, none⟩) 2 2] 27
          rw [show (w3.alloc (Obj.cells #[Value.int .i64 a, .int .i64 b] 3)).heap.size = w3.heap.size + 1 by simp] at hr2
          have hbxb := HB.out.new hbl2
          have D1 := HB.out.two.2
          have D1q : (w3.alloc (Obj.cells #[Value.int .i64 a, .int .i64 b] 3)).cell? ⟨w.heap.size + 2, 1, none⟩ = some v := (HB.out.new hbl1).two.2
          have HS := Lib.hid (show w.heap.size + 3 ≤ w3.heap.size from hz3)
          have HBQ := Lib.hid hbl2
          obtain ⟨Wb, hWb⟩ : ∃ z : World, z = (w3.alloc (Obj.cells #[Value.int .i64 a, .int .i64 b] 3)).alloc (Obj.cells #[Value.slice (some ⟨w3.heap.size, 0, none⟩) 2 2] 27) := ⟨_, rfl⟩
          rw [← hWb] at hown2 hrow2 hr2 hbxb HBQ
          have hWb' := hWb.symm
          clear hWb hbl1 hbl2 hz3
          go_wp2_with (at_builtin; refine wpList_appSS (X := outT a b Y) (x := [a, b]) (u := .slice (some ⟨w3.heap.size, 0, none⟩) 2 2) (v := v) (L := w.heap.size + 3) (M := w3.heap.size) (lo := w3.heap.size) (hi := w3.heap.size + 1) (c := 1) (ad := ⟨w3.heap.size + 1, 0, none⟩) rfl (.tmp 55) (.tmp 59) rfl rfl rfl hown2 hrow2 hr2 (Nat.le_refl _) HS.out (by omega) (Nat.le_trans HS.out HBQ.out.size) ?_; intro v7 w7 hown7 hbw7; obtain ⟨A7, c7, rfl, _, _, _⟩ := hown7.rd (n := (outT a b Y).length + 1) (by simp); have bx7 : Bx w7 (w.heap.size + 2) 26 #[Value.int IntKind.i64 m, v] := (hbw7.block _ (Nat.lt_succ_self _)).trans hbxb; have c7q := bx7.two.2; have f7 := bx7.free 1)

          obtain ⟨wq, hwq⟩ : ∃ z : World, z = w7.setCell ⟨w.heap.size + 1 + 1, 1, none⟩ (.slice A7 ((outT a b Y).length + 1) c7) := ⟨_, rfl⟩
          rw [← hwq]
          have hch : Below (w.heap.size + 2) w3 w7 := (HBQ.out.mono (by have := HS.out; omega)).trans (hbw7.mono (by omega))
          have hb39 : Below (w.heap.size + 2) w3 wq := by rw [hwq]; exact hch.setCell (Nat.le_refl _) _
          have HBold := HB
          clear HB
          have HB : Hid (Bx wq (w.heap.size + 2) 26 #[Value.int IntKind.i64 m, .slice A7 ((outT a b Y).length + 1) c7]) := Lib.hid (by rw [hwq]; exact bx7.set 1 _)
          have HOold := HO
          clear HO
          have HO : Hid (OwnSS wq (w.heap.size + 3) wq.heap.size (.slice A7 ((outT a b Y).length + 1) c7) (outT a b Y ++ [[a, b]])) := Lib.hid (by rw [hwq]; exact (hown7.setFar (.inl (Nat.lt_succ_self _)) _).wide (Nat.le_refl _) (by simp))
          have hz3 : w.heap.size + 3 ≤ wq.heap.size := Nat.le_trans HS.out hb39.size
          have hbqo := hbq
          clear hbq
          have hbq : Below (w.heap.size + 2) W1 wq := hbqo.trans hb39
          clear HRx
          have HRx := Lib.hid ((HRD.out.below (hb39.mono (by omega))).more (show w.heap.size ≤ wq.heap.size by omega))
          have hYl : (outT a b Y ++ [[a, b]]).length + 1 ≤ 1099511627777 := by have := HLN.out; simp; omega
          clear hwq bx7 c7q f7 HBold HOold HBQ hown7 hbw7 hr2 hrow2 hown2 hbxb hWb' D1 D1q HS

          have D1 := (HB.out.two).2
          have HL3 := Lib.hid (show w.heap.size + 3 ≤ wq.heap.size from hz3)
          have D1a : (wq.alloc (Obj.cells #[] 3)).cell? ⟨w.heap.size + 2, 1, none⟩ = some (.slice A7 ((outT a b Y).length + 1) c7) := cell_below D1 ((Below.refl _ _).alloc hz3 _) (Nat.lt_succ_self _)
          have D1d : (wq.drew.alloc (Obj.cells #[] 3)).cell? ⟨w.heap.size + 2, 1, none⟩ = some (.slice A7 ((outT a b Y).length + 1) c7) := cell_below (w1 := wq.drew) D1 ((Below.refl (w.heap.size + 3) wq.drew).alloc hz3 _) (Nat.lt_succ_self _)
          have HW0 := Lib.hid (Row.made (w := wq) wq.heap.size #[] 0 3 (Nat.le_refl _) rfl (Nat.zero_le _))
          have L1 := Lib.hid (show ([] : List Value).length + 2 ≤ maxLen ∧ (([] : List Value).length + 2) * 8 ≤ 140737488355328 by unfold maxLen; simp)
          clear hz3
          go_region_law (first
            | (refine step_app (news := ivs [(p : Int), (q : Int)]) (B := wq.heap.size) (A := some ⟨ag, ao, none⟩) (m := 2) (c := cj) (v := .slice (some ⟨wq.heap.size, 0, none⟩) 0 0) (xs := []) (lo := wq.heap.size) (hi' := wq.heap.size + 1) rfl (.tmp 64) (.tmp 65) 27 rfl 3 i0 (.int .i64 0) 8 Tryd.underlying27 hi hz0 hz1 hz2 rfl (by simp [Act.eval]) (by simp [Act.eval]) (by first | exact HW0.out | exact rowD HW0.out) rfl (by first | exact HRx.out.below ((Below.refl _ _).alloc (Nat.le_refl _) _) | exact HRx.out.below ((Below.refl _ _).alloc (Nat.le_refl _) _).drew | exact HRx.out.below ((Below.refl _ _).drew.alloc (Nat.le_refl _) _)) int_one L1.out.1 L1.out.2 (by simp) ?_; intro v1 w1 hrow1 ho1; obtain ⟨A9, c9, rfl, _, _, _⟩ := hrow1.rd (n := 2) rfl; have hbw1 : Below wq.heap.size wq w1 := (by first | exact ((Below.refl wq.heap.size wq).alloc (Nat.le_refl _) _).trans (ho1.below (Nat.le_refl _) (by simp)) | exact ((Below.refl wq.heap.size wq).alloc (Nat.le_refl _) _).drew.trans (ho1.below (Nat.le_refl _) (by simp)) | exact ((Below.refl wq.heap.size wq).drew.alloc (Nat.le_refl _) _).trans (ho1.below (Nat.le_refl _) (by simp))); have D1b := cell_below D1 (hbw1.mono HL3.out) (Nat.lt_succ_self _); have D1c : (w1.alloc (Obj.cells #[.slice A9 2 c9] 27)).cell? ⟨w.heap.size + 2, 1, none⟩ = some (.slice A7 ((outT a b Y).length + 1) c7) := cell_below D1b ((Below.refl _ _).alloc (Nat.le_trans HL3.out hbw1.size) _) (Nat.lt_succ_self _))
            | (refine step_appSS (X := outT a b Y ++ [[a, b]]) (x := [(p : Int), (q : Int)]) (u := .slice A9 2 c9) (v := .slice A7 ((outT a b Y).length + 1) c7) (L := w.heap.size + 3) (M := wq.heap.size) (lo := wq.heap.size) (hi := w1.heap.size) (c := 1) (ad := ⟨w1.heap.size, 0, none⟩) rfl (.tmp 63) (.tmp 67) rfl (by simp [Act.eval]) (by simp [Act.eval]) (by first | exact (HO.out.below hbw1 (Nat.le_refl _)).new ((Below.refl _ _).alloc (Nat.le_refl _) _) | exact (HO.out.below hbw1 (Nat.le_refl _)).new ((Below.refl _ _).alloc (Nat.le_refl _) _).drew) (by first | exact hrow1.new ((Below.refl _ _).alloc (Nat.le_refl _) _) | exact hrow1.new ((Below.refl _ _).alloc (Nat.le_refl _) _).drew) (by exact Rd.made w1 #[.slice A9 2 c9] _) (Nat.le_refl _) HL3.out hYl (by have := hbw1.size; have := HL3.out; simp; omega) ?_; intro v2 w2 hown2 hbw2; obtain ⟨A8, c8, rfl, _, _, _⟩ := hown2.rd (n := (outT a b Y).length + 1 + 1) (by simp); have hb9 : Below (w.heap.size + 3) wq w2 := ((hbw1.mono HL3.out).trans (by first | exact ((Below.refl _ _).alloc (Nat.le_trans HL3.out hbw1.size) _) | exact ((Below.refl _ _).alloc (Nat.le_trans HL3.out hbw1.size) _).drew)).trans hbw2; have bx9 : Bx w2 (w.heap.size + 2) 26 #[Value.int IntKind.i64 m, .slice A7 ((outT a b Y).length + 1) c7] := (hb9.block _ (Nat.lt_succ_self _)).trans HB.out; have c2 := bx9.two.2; have f2 := bx9.free 1))
          all_goals
            go_wp2
            go_roundw
            case rel => exact ⟨k + 1, true, .slice A8 ((outT a b Y).length + 1 + 1) c8, by omega, by go_num, rfl, bx9.set 1 _, by rw [HZ.out]; exact (hown2.setFar (.inl (Nat.lt_succ_self _)) _).wide (Nat.le_refl _) (by simp), hbq.trans ((hb9.mono (Nat.le_succ _)).setCell (Nat.le_refl _) _), HT⟩
            case measure => simp [intOf]; omega
        · have d1 : decide (a < (p : Int)) = false := decide_eq_false h1
          by_cases h2 : (p : Int) = a
          · have h2' : ((p : Int) == a) = true := by simpa using h2
            by_cases h3 : b < (q : Int)
            · have hgt : gtP [(p : Int), (q : Int)] a b = true := by unfold gtP; simp [h2, h3]
              have d3 : decide (b < (q : Int)) = true := decide_eq_true h3
              have HZ := Lib.hid (show outT a b (X.take (k + 1)) = outT a b Y ++ [[a, b]] ++ [[(p : Int), (q : Int)]] by rw [HJ.out]; exact outT_yes hno hgt)
              have HT := Lib.hid (show true = (X.take (k + 1)).any (gtP · a b) by rw [HJ.out, List.any_append]; simp [hgt])
              have HLN : Hid ((outT a b Y).length = Y.length) := Lib.hid (by unfold outT; rw [hno]; rfl)
              clear hno hgt hdd

              have hbl1 : Below w3.heap.size w3 (w3.alloc (Obj.cells #[Value.int .i64 a, .int .i64 b] 3)) := (Below.refl _ _).alloc (Nat.le_refl _) _
              have hbl2 : Below w3.heap.size w3 ((w3.alloc (Obj.cells #[Value.int .i64 a, .int .i64 b] 3)).alloc (Obj.cells #[Value.slice (some ⟨w3.heap.size, 0, none⟩) 2 2] 27)) := hbl1.alloc hbl1.size _
              have hown2 := HO.out.new hbl2
              have hrow2 := (Row.made (w := w3) w3.heap.size #[Value.int .i64 a, .int .i64 b] 2 3 (Nat.le_refl _) rfl (by decide)).new ((Below.refl _ _).alloc (Nat.le_refl _) (Obj.cells #[Value.slice (some ⟨w3.heap.size, 0, none⟩) 2 2] 27))
              have hr2 := Rd.made (w3.alloc (Obj.cells #[Value.int .i64 a, .int .i64 b] 3)) #[Value.slice (some ⟨w3.heap.size, 0, none⟩) 2 2] 27
              rw [show (w3.alloc (Obj.cells #[Value.int .i64 a, .int .i64 b] 3)).heap.size = w3.heap.size + 1 by simp] at hr2
              have hbxb := HB.out.new hbl2
              have D1 := HB.out.two.2
              have D1q : (w3.alloc (Obj.cells #[Value.int .i64 a, .int .i64 b] 3)).cell? ⟨w.heap.size + 2, 1, none⟩ = some v := (HB.out.new hbl1).two.2
              have HS := Lib.hid (show w.heap.size + 3 ≤ w3.heap.size from hz3)
              have HBQ := Lib.hid hbl2
              obtain ⟨Wb, hWb⟩ : ∃ z : World, z = (w3.alloc (Obj.cells #[Value.int .i64 a, .int .i64 b] 3)).alloc (Obj.cells #[Value.slice (some ⟨w3.heap.size, 0, none⟩) 2 2] 27) := ⟨_, rfl⟩
              rw [← hWb] at hown2 hrow2 hr2 hbxb HBQ
              have hWb' := hWb.symm
              clear hWb hbl1 hbl2 hz3
              go_wp2_with (at_builtin; refine wpList_appSS (X := outT a b Y) (x := [a, b]) (u := .slice (some ⟨w3.heap.size, 0, none⟩) 2 2) (v := v) (L := w.heap.size + 3) (M := w3.heap.size) (lo := w3.heap.size) (hi := w3.heap.size + 1) (c := 1) (ad := ⟨w3.heap.size + 1, 0, none⟩) rfl (.tmp 55) (.tmp 59) rfl rfl rfl hown2 hrow2 hr2 (Nat.le_refl _) HS.out (by omega) (Nat.le_trans HS.out HBQ.out.size) ?_; intro v7 w7 hown7 hbw7; obtain ⟨A7, c7, rfl, _, _, _⟩ := hown7.rd (n := (outT a b Y).length + 1) (by simp); have bx7 : Bx w7 (w.heap.size + 2) 26 #[Value.int IntKind.i64 m, v] := (hbw7.block _ (Nat.lt_succ_self _)).trans hbxb; have c7q := bx7.two.2; have f7 := bx7.free 1)

              obtain ⟨wq, hwq⟩ : ∃ z : World, z = w7.setCell ⟨w.heap.size + 1 + 1, 1, none⟩ (.slice A7 ((outT a b Y).length + 1) c7) := ⟨_, rfl⟩
              rw [← hwq]
              have hch : Below (w.heap.size + 2) w3 w7 := (HBQ.out.mono (by have := HS.out; omega)).trans (hbw7.mono (by omega))
              have hb39 : Below (w.heap.size + 2) w3 wq := by rw [hwq]; exact hch.setCell (Nat.le_refl _) _
              have HBold := HB
              clear HB
              have HB : Hid (Bx wq (w.heap.size + 2) 26 #[Value.int IntKind.i64 m, .slice A7 ((outT a b Y).length + 1) c7]) := Lib.hid (by rw [hwq]; exact bx7.set 1 _)
              have HOold := HO
              clear HO
              have HO : Hid (OwnSS wq (w.heap.size + 3) wq.heap.size (.slice A7 ((outT a b Y).length + 1) c7) (outT a b Y ++ [[a, b]])) := Lib.hid (by rw [hwq]; exact (hown7.setFar (.inl (Nat.lt_succ_self _)) _).wide (Nat.le_refl _) (by simp))
              have hz3 : w.heap.size + 3 ≤ wq.heap.size := Nat.le_trans HS.out hb39.size
              have hbqo := hbq
              clear hbq
              have hbq : Below (w.heap.size + 2) W1 wq := hbqo.trans hb39
              clear HRx
              have HRx := Lib.hid ((HRD.out.below (hb39.mono (by omega))).more (show w.heap.size ≤ wq.heap.size by omega))
              have hYl : (outT a b Y ++ [[a, b]]).length + 1 ≤ 1099511627777 := by have := HLN.out; simp; omega
              clear hwq bx7 c7q f7 HBold HOold HBQ hown7 hbw7 hr2 hrow2 hown2 hbxb hWb' D1 D1q HS

              have D1 := (HB.out.two).2
              have HL3 := Lib.hid (show w.heap.size + 3 ≤ wq.heap.size from hz3)
              have D1a : (wq.alloc (Obj.cells #[] 3)).cell? ⟨w.heap.size + 2, 1, none⟩ = some (.slice A7 ((outT a b Y).length + 1) c7) := cell_below D1 ((Below.refl _ _).alloc hz3 _) (Nat.lt_succ_self _)
              have D1d : (wq.drew.alloc (Obj.cells #[] 3)).cell? ⟨w.heap.size + 2, 1, none⟩ = some (.slice A7 ((outT a b Y).length + 1) c7) := cell_below (w1 := wq.drew) D1 ((Below.refl (w.heap.size + 3) wq.drew).alloc hz3 _) (Nat.lt_succ_self _)
              have HW0 := Lib.hid (Row.made (w := wq) wq.heap.size #[] 0 3 (Nat.le_refl _) rfl (Nat.zero_le _))
              have L1 := Lib.hid (show ([] : List Value).length + 2 ≤ maxLen ∧ (([] : List Value).length + 2) * 8 ≤ 140737488355328 by unfold maxLen; simp)
              clear hz3
              go_region_law (first
                | (refine step_app (news := ivs [(p : Int), (q : Int)]) (B := wq.heap.size) (A := some ⟨ag, ao, none⟩) (m := 2) (c := cj) (v := .slice (some ⟨wq.heap.size, 0, none⟩) 0 0) (xs := []) (lo := wq.heap.size) (hi' := wq.heap.size + 1) rfl (.tmp 64) (.tmp 65) 27 rfl 3 i0 (.int .i64 0) 8 Tryd.underlying27 hi hz0 hz1 hz2 rfl (by simp [Act.eval]) (by simp [Act.eval]) (by first | exact HW0.out | exact rowD HW0.out) rfl (by first | exact HRx.out.below ((Below.refl _ _).alloc (Nat.le_refl _) _) | exact HRx.out.below ((Below.refl _ _).alloc (Nat.le_refl _) _).drew | exact HRx.out.below ((Below.refl _ _).drew.alloc (Nat.le_refl _) _)) int_one L1.out.1 L1.out.2 (by simp) ?_; intro v1 w1 hrow1 ho1; obtain ⟨A9, c9, rfl, _, _, _⟩ := hrow1.rd (n := 2) rfl; have hbw1 : Below wq.heap.size wq w1 := (by first | exact ((Below.refl wq.heap.size wq).alloc (Nat.le_refl _) _).trans (ho1.below (Nat.le_refl _) (by simp)) | exact ((Below.refl wq.heap.size wq).alloc (Nat.le_refl _) _).drew.trans (ho1.below (Nat.le_refl _) (by simp)) | exact ((Below.refl wq.heap.size wq).drew.alloc (Nat.le_refl _) _).trans (ho1.below (Nat.le_refl _) (by simp))); have D1b := cell_below D1 (hbw1.mono HL3.out) (Nat.lt_succ_self _); have D1c : (w1.alloc (Obj.cells #[.slice A9 2 c9] 27)).cell? ⟨w.heap.size + 2, 1, none⟩ = some (.slice A7 ((outT a b Y).length + 1) c7) := cell_below D1b ((Below.refl _ _).alloc (Nat.le_trans HL3.out hbw1.size) _) (Nat.lt_succ_self _))
                | (refine step_appSS (X := outT a b Y ++ [[a, b]]) (x := [(p : Int), (q : Int)]) (u := .slice A9 2 c9) (v := .slice A7 ((outT a b Y).length + 1) c7) (L := w.heap.size + 3) (M := wq.heap.size) (lo := wq.heap.size) (hi := w1.heap.size) (c := 1) (ad := ⟨w1.heap.size, 0, none⟩) rfl (.tmp 63) (.tmp 67) rfl (by simp [Act.eval]) (by simp [Act.eval]) (by first | exact (HO.out.below hbw1 (Nat.le_refl _)).new ((Below.refl _ _).alloc (Nat.le_refl _) _) | exact (HO.out.below hbw1 (Nat.le_refl _)).new ((Below.refl _ _).alloc (Nat.le_refl _) _).drew) (by first | exact hrow1.new ((Below.refl _ _).alloc (Nat.le_refl _) _) | exact hrow1.new ((Below.refl _ _).alloc (Nat.le_refl _) _).drew) (by exact Rd.made w1 #[.slice A9 2 c9] _) (Nat.le_refl _) HL3.out hYl (by have := hbw1.size; have := HL3.out; simp; omega) ?_; intro v2 w2 hown2 hbw2; obtain ⟨A8, c8, rfl, _, _, _⟩ := hown2.rd (n := (outT a b Y).length + 1 + 1) (by simp); have hb9 : Below (w.heap.size + 3) wq w2 := ((hbw1.mono HL3.out).trans (by first | exact ((Below.refl _ _).alloc (Nat.le_trans HL3.out hbw1.size) _) | exact ((Below.refl _ _).alloc (Nat.le_trans HL3.out hbw1.size) _).drew)).trans hbw2; have bx9 : Bx w2 (w.heap.size + 2) 26 #[Value.int IntKind.i64 m, .slice A7 ((outT a b Y).length + 1) c7] := (hb9.block _ (Nat.lt_succ_self _)).trans HB.out; have c2 := bx9.two.2; have f2 := bx9.free 1))
              all_goals
                go_wp2
                go_roundw
                case rel => exact ⟨k + 1, true, .slice A8 ((outT a b Y).length + 1 + 1) c8, by omega, by go_num, rfl, bx9.set 1 _, by rw [HZ.out]; exact (hown2.setFar (.inl (Nat.lt_succ_self _)) _).wide (Nat.le_refl _) (by simp), hbq.trans ((hb9.mono (Nat.le_succ _)).setCell (Nat.le_refl _) _), HT⟩
                case measure => simp [intOf]; omega
            · have hgt : gtP [(p : Int), (q : Int)] a b = false := by unfold gtP; simp [h1, h3]
              have d3 : decide (b < (q : Int)) = false := decide_eq_false h3
              have HZ := Lib.hid (show outT a b (X.take (k + 1)) = outT a b Y ++ [[(p : Int), (q : Int)]] by rw [HJ.out]; exact outT_no hno hgt)
              have HT := Lib.hid (show false = (X.take (k + 1)).any (gtP · a b) by rw [HJ.out, List.any_append, hno]; simp [hgt])
              clear hno hgt hdd
              go_wp2_with fail

              have D1 := (HB.out.two).2
              have HL3 := Lib.hid (show w.heap.size + 3 ≤ w3.heap.size from hz3)
              have D1a : (w3.alloc (Obj.cells #[] 3)).cell? ⟨w.heap.size + 2, 1, none⟩ = some v := cell_below D1 ((Below.refl _ _).alloc hz3 _) (Nat.lt_succ_self _)
              have D1d : (w3.drew.alloc (Obj.cells #[] 3)).cell? ⟨w.heap.size + 2, 1, none⟩ = some v := cell_below (w1 := w3.drew) D1 ((Below.refl (w.heap.size + 3) w3.drew).alloc hz3 _) (Nat.lt_succ_self _)
              have HW0 := Lib.hid (Row.made (w := w3) w3.heap.size #[] 0 3 (Nat.le_refl _) rfl (Nat.zero_le _))
              have L1 := Lib.hid (show ([] : List Value).length + 2 ≤ maxLen ∧ (([] : List Value).length + 2) * 8 ≤ 140737488355328 by unfold maxLen; simp)
              clear hz3
              go_region_law (first
                | (refine step_app (news := ivs [(p : Int), (q : Int)]) (B := w3.heap.size) (A := some ⟨ag, ao, none⟩) (m := 2) (c := cj) (v := .slice (some ⟨w3.heap.size, 0, none⟩) 0 0) (xs := []) (lo := w3.heap.size) (hi' := w3.heap.size + 1) rfl (.tmp 64) (.tmp 65) 27 rfl 3 i0 (.int .i64 0) 8 Tryd.underlying27 hi hz0 hz1 hz2 rfl (by simp [Act.eval]) (by simp [Act.eval]) (by first | exact HW0.out | exact rowD HW0.out) rfl (by first | exact HRx.out.below ((Below.refl _ _).alloc (Nat.le_refl _) _) | exact HRx.out.below ((Below.refl _ _).alloc (Nat.le_refl _) _).drew | exact HRx.out.below ((Below.refl _ _).drew.alloc (Nat.le_refl _) _)) int_one L1.out.1 L1.out.2 (by simp) ?_; intro v1 w1 hrow1 ho1; obtain ⟨A9, c9, rfl, _, _, _⟩ := hrow1.rd (n := 2) rfl; have hbw1 : Below w3.heap.size w3 w1 := (by first | exact ((Below.refl w3.heap.size w3).alloc (Nat.le_refl _) _).trans (ho1.below (Nat.le_refl _) (by simp)) | exact ((Below.refl w3.heap.size w3).alloc (Nat.le_refl _) _).drew.trans (ho1.below (Nat.le_refl _) (by simp)) | exact ((Below.refl w3.heap.size w3).drew.alloc (Nat.le_refl _) _).trans (ho1.below (Nat.le_refl _) (by simp))); have D1b := cell_below D1 (hbw1.mono HL3.out) (Nat.lt_succ_self _); have D1c : (w1.alloc (Obj.cells #[.slice A9 2 c9] 27)).cell? ⟨w.heap.size + 2, 1, none⟩ = some v := cell_below D1b ((Below.refl _ _).alloc (Nat.le_trans HL3.out hbw1.size) _) (Nat.lt_succ_self _))
                | (refine step_appSS (X := outT a b Y) (x := [(p : Int), (q : Int)]) (u := .slice A9 2 c9) (v := v) (L := w.heap.size + 3) (M := w3.heap.size) (lo := w3.heap.size) (hi := w1.heap.size) (c := 1) (ad := ⟨w1.heap.size, 0, none⟩) rfl (.tmp 63) (.tmp 67) rfl (by simp [Act.eval]) (by simp [Act.eval]) (by first | exact (HO.out.below hbw1 (Nat.le_refl _)).new ((Below.refl _ _).alloc (Nat.le_refl _) _) | exact (HO.out.below hbw1 (Nat.le_refl _)).new ((Below.refl _ _).alloc (Nat.le_refl _) _).drew) (by first | exact hrow1.new ((Below.refl _ _).alloc (Nat.le_refl _) _) | exact hrow1.new ((Below.refl _ _).alloc (Nat.le_refl _) _).drew) (by exact Rd.made w1 #[.slice A9 2 c9] _) (Nat.le_refl _) HL3.out hYl (by have := hbw1.size; have := HL3.out; simp; omega) ?_; intro v2 w2 hown2 hbw2; obtain ⟨A8, c8, rfl, _, _, _⟩ := hown2.rd (n := (outT a b Y).length + 1) (by simp); have hb9 : Below (w.heap.size + 3) w3 w2 := ((hbw1.mono HL3.out).trans (by first | exact ((Below.refl _ _).alloc (Nat.le_trans HL3.out hbw1.size) _) | exact ((Below.refl _ _).alloc (Nat.le_trans HL3.out hbw1.size) _).drew)).trans hbw2; have bx9 : Bx w2 (w.heap.size + 2) 26 #[Value.int IntKind.i64 m, v] := (hb9.block _ (Nat.lt_succ_self _)).trans HB.out; have c2 := bx9.two.2; have f2 := bx9.free 1))
              all_goals
                go_wp2
                go_roundw
                case rel => exact ⟨k + 1, false, .slice A8 ((outT a b Y).length + 1) c8, by omega, by go_num, rfl, bx9.set 1 _, by rw [HZ.out]; exact (hown2.setFar (.inl (Nat.lt_succ_self _)) _).wide (Nat.le_refl _) (by simp), hbq.trans ((hb9.mono (Nat.le_succ _)).setCell (Nat.le_refl _) _), HT⟩
                case measure => simp [intOf]; omega
          · have hgt : gtP [(p : Int), (q : Int)] a b = false := by unfold gtP; simp [h1, h2]
            have h2' : ((p : Int) == a) = false := by simpa using h2
            have HZ := Lib.hid (show outT a b (X.take (k + 1)) = outT a b Y ++ [[(p : Int), (q : Int)]] by rw [HJ.out]; exact outT_no hno hgt)
            have HT := Lib.hid (show false = (X.take (k + 1)).any (gtP · a b) by rw [HJ.out, List.any_append, hno]; simp [hgt])
            clear hno hgt hdd
            go_wp2_with fail

            have D1 := (HB.out.two).2
            have HL3 := Lib.hid (show w.heap.size + 3 ≤ w3.heap.size from hz3)
            have D1a : (w3.alloc (Obj.cells #[] 3)).cell? ⟨w.heap.size + 2, 1, none⟩ = some v := cell_below D1 ((Below.refl _ _).alloc hz3 _) (Nat.lt_succ_self _)
            have D1d : (w3.drew.alloc (Obj.cells #[] 3)).cell? ⟨w.heap.size + 2, 1, none⟩ = some v := cell_below (w1 := w3.drew) D1 ((Below.refl (w.heap.size + 3) w3.drew).alloc hz3 _) (Nat.lt_succ_self _)
            have HW0 := Lib.hid (Row.made (w := w3) w3.heap.size #[] 0 3 (Nat.le_refl _) rfl (Nat.zero_le _))
            have L1 := Lib.hid (show ([] : List Value).length + 2 ≤ maxLen ∧ (([] : List Value).length + 2) * 8 ≤ 140737488355328 by unfold maxLen; simp)
            clear hz3
            go_region_law (first
              | (refine step_app (news := ivs [(p : Int), (q : Int)]) (B := w3.heap.size) (A := some ⟨ag, ao, none⟩) (m := 2) (c := cj) (v := .slice (some ⟨w3.heap.size, 0, none⟩) 0 0) (xs := []) (lo := w3.heap.size) (hi' := w3.heap.size + 1) rfl (.tmp 64) (.tmp 65) 27 rfl 3 i0 (.int .i64 0) 8 Tryd.underlying27 hi hz0 hz1 hz2 rfl (by simp [Act.eval]) (by simp [Act.eval]) (by first | exact HW0.out | exact rowD HW0.out) rfl (by first | exact HRx.out.below ((Below.refl _ _).alloc (Nat.le_refl _) _) | exact HRx.out.below ((Below.refl _ _).alloc (Nat.le_refl _) _).drew | exact HRx.out.below ((Below.refl _ _).drew.alloc (Nat.le_refl _) _)) int_one L1.out.1 L1.out.2 (by simp) ?_; intro v1 w1 hrow1 ho1; obtain ⟨A9, c9, rfl, _, _, _⟩ := hrow1.rd (n := 2) rfl; have hbw1 : Below w3.heap.size w3 w1 := (by first | exact ((Below.refl w3.heap.size w3).alloc (Nat.le_refl _) _).trans (ho1.below (Nat.le_refl _) (by simp)) | exact ((Below.refl w3.heap.size w3).alloc (Nat.le_refl _) _).drew.trans (ho1.below (Nat.le_refl _) (by simp)) | exact ((Below.refl w3.heap.size w3).drew.alloc (Nat.le_refl _) _).trans (ho1.below (Nat.le_refl _) (by simp))); have D1b := cell_below D1 (hbw1.mono HL3.out) (Nat.lt_succ_self _); have D1c : (w1.alloc (Obj.cells #[.slice A9 2 c9] 27)).cell? ⟨w.heap.size + 2, 1, none⟩ = some v := cell_below D1b ((Below.refl _ _).alloc (Nat.le_trans HL3.out hbw1.size) _) (Nat.lt_succ_self _))
              | (refine step_appSS (X := outT a b Y) (x := [(p : Int), (q : Int)]) (u := .slice A9 2 c9) (v := v) (L := w.heap.size + 3) (M := w3.heap.size) (lo := w3.heap.size) (hi := w1.heap.size) (c := 1) (ad := ⟨w1.heap.size, 0, none⟩) rfl (.tmp 63) (.tmp 67) rfl (by simp [Act.eval]) (by simp [Act.eval]) (by first | exact (HO.out.below hbw1 (Nat.le_refl _)).new ((Below.refl _ _).alloc (Nat.le_refl _) _) | exact (HO.out.below hbw1 (Nat.le_refl _)).new ((Below.refl _ _).alloc (Nat.le_refl _) _).drew) (by first | exact hrow1.new ((Below.refl _ _).alloc (Nat.le_refl _) _) | exact hrow1.new ((Below.refl _ _).alloc (Nat.le_refl _) _).drew) (by exact Rd.made w1 #[.slice A9 2 c9] _) (Nat.le_refl _) HL3.out hYl (by have := hbw1.size; have := HL3.out; simp; omega) ?_; intro v2 w2 hown2 hbw2; obtain ⟨A8, c8, rfl, _, _, _⟩ := hown2.rd (n := (outT a b Y).length + 1) (by simp); have hb9 : Below (w.heap.size + 3) w3 w2 := ((hbw1.mono HL3.out).trans (by first | exact ((Below.refl _ _).alloc (Nat.le_trans HL3.out hbw1.size) _) | exact ((Below.refl _ _).alloc (Nat.le_trans HL3.out hbw1.size) _).drew)).trans hbw2; have bx9 : Bx w2 (w.heap.size + 2) 26 #[Value.int IntKind.i64 m, v] := (hb9.block _ (Nat.lt_succ_self _)).trans HB.out; have c2 := bx9.two.2; have f2 := bx9.free 1))
            all_goals
              go_wp2
              go_roundw
              case rel => exact ⟨k + 1, false, .slice A8 ((outT a b Y).length + 1) c8, by omega, by go_num, rfl, bx9.set 1 _, by rw [HZ.out]; exact (hown2.setFar (.inl (Nat.lt_succ_self _)) _).wide (Nat.le_refl _) (by simp), hbq.trans ((hb9.mono (Nat.le_succ _)).setCell (Nat.le_refl _) _), HT⟩
              case measure => simp [intOf]; omega
      · have hyes := hdd.out.symm
        have HZ := Lib.hid (show outT a b (X.take (k + 1)) = outT a b Y ++ [[(p : Int), (q : Int)]] by rw [HJ.out]; exact outT_any hyes)
        have HT := Lib.hid (show true = (X.take (k + 1)).any (gtP · a b) by rw [HJ.out, List.any_append, hyes]; rfl)
        clear hyes hdd
        go_wp2_with fail

        have D1 := (HB.out.two).2
        have HL3 := Lib.hid (show w.heap.size + 3 ≤ w3.heap.size from hz3)
        have D1a : (w3.alloc (Obj.cells #[] 3)).cell? ⟨w.heap.size + 2, 1, none⟩ = some v := cell_below D1 ((Below.refl _ _).alloc hz3 _) (Nat.lt_succ_self _)
        have D1d : (w3.drew.alloc (Obj.cells #[] 3)).cell? ⟨w.heap.size + 2, 1, none⟩ = some v := cell_below (w1 := w3.drew) D1 ((Below.refl (w.heap.size + 3) w3.drew).alloc hz3 _) (Nat.lt_succ_self _)
        have HW0 := Lib.hid (Row.made (w := w3) w3.heap.size #[] 0 3 (Nat.le_refl _) rfl (Nat.zero_le _))
        have L1 := Lib.hid (show ([] : List Value).length + 2 ≤ maxLen ∧ (([] : List Value).length + 2) * 8 ≤ 140737488355328 by unfold maxLen; simp)
        clear hz3
        go_region_law (first
          | (refine step_app (news := ivs [(p : Int), (q : Int)]) (B := w3.heap.size) (A := some ⟨ag, ao, none⟩) (m := 2) (c := cj) (v := .slice (some ⟨w3.heap.size, 0, none⟩) 0 0) (xs := []) (lo := w3.heap.size) (hi' := w3.heap.size + 1) rfl (.tmp 64) (.tmp 65) 27 rfl 3 i0 (.int .i64 0) 8 Tryd.underlying27 hi hz0 hz1 hz2 rfl (by simp [Act.eval]) (by simp [Act.eval]) (by first | exact HW0.out | exact rowD HW0.out) rfl (by first | exact HRx.out.below ((Below.refl _ _).alloc (Nat.le_refl _) _) | exact HRx.out.below ((Below.refl _ _).alloc (Nat.le_refl _) _).drew | exact HRx.out.below ((Below.refl _ _).drew.alloc (Nat.le_refl _) _)) int_one L1.out.1 L1.out.2 (by simp) ?_; intro v1 w1 hrow1 ho1; obtain ⟨A9, c9, rfl, _, _, _⟩ := hrow1.rd (n := 2) rfl; have hbw1 : Below w3.heap.size w3 w1 := (by first | exact ((Below.refl w3.heap.size w3).alloc (Nat.le_refl _) _).trans (ho1.below (Nat.le_refl _) (by simp)) | exact ((Below.refl w3.heap.size w3).alloc (Nat.le_refl _) _).drew.trans (ho1.below (Nat.le_refl _) (by simp)) | exact ((Below.refl w3.heap.size w3).drew.alloc (Nat.le_refl _) _).trans (ho1.below (Nat.le_refl _) (by simp))); have D1b := cell_below D1 (hbw1.mono HL3.out) (Nat.lt_succ_self _); have D1c : (w1.alloc (Obj.cells #[.slice A9 2 c9] 27)).cell? ⟨w.heap.size + 2, 1, none⟩ = some v := cell_below D1b ((Below.refl _ _).alloc (Nat.le_trans HL3.out hbw1.size) _) (Nat.lt_succ_self _))
          | (refine step_appSS (X := outT a b Y) (x := [(p : Int), (q : Int)]) (u := .slice A9 2 c9) (v := v) (L := w.heap.size + 3) (M := w3.heap.size) (lo := w3.heap.size) (hi := w1.heap.size) (c := 1) (ad := ⟨w1.heap.size, 0, none⟩) rfl (.tmp 63) (.tmp 67) rfl (by simp [Act.eval]) (by simp [Act.eval]) (by first | exact (HO.out.below hbw1 (Nat.le_refl _)).new ((Below.refl _ _).alloc (Nat.le_refl _) _) | exact (HO.out.below hbw1 (Nat.le_refl _)).new ((Below.refl _ _).alloc (Nat.le_refl _) _).drew) (by first | exact hrow1.new ((Below.refl _ _).alloc (Nat.le_refl _) _) | exact hrow1.new ((Below.refl _ _).alloc (Nat.le_refl _) _).drew) (by exact Rd.made w1 #[.slice A9 2 c9] _) (Nat.le_refl _) HL3.out hYl (by have := hbw1.size; have := HL3.out; simp; omega) ?_; intro v2 w2 hown2 hbw2; obtain ⟨A8, c8, rfl, _, _, _⟩ := hown2.rd (n := (outT a b Y).length + 1) (by simp); have hb9 : Below (w.heap.size + 3) w3 w2 := ((hbw1.mono HL3.out).trans (by first | exact ((Below.refl _ _).alloc (Nat.le_trans HL3.out hbw1.size) _) | exact ((Below.refl _ _).alloc (Nat.le_trans HL3.out hbw1.size) _).drew)).trans hbw2; have bx9 : Bx w2 (w.heap.size + 2) 26 #[Value.int IntKind.i64 m, v] := (hb9.block _ (Nat.lt_succ_self _)).trans HB.out; have c2 := bx9.two.2; have f2 := bx9.free 1))
        all_goals
          go_wp2
          go_roundw
          case rel => exact ⟨k + 1, true, .slice A8 ((outT a b Y).length + 1) c8, by omega, by go_num, rfl, bx9.set 1 _, by rw [HZ.out]; exact (hown2.setFar (.inl (Nat.lt_succ_self _)) _).wide (Nat.le_refl _) (by simp), hbq.trans ((hb9.mono (Nat.le_succ _)).setCell (Nat.le_refl _) _), HT⟩
          case measure => simp [intOf]; omega
    · have e : k = n := by omega
      subst e
      rw [List.take_of_length_le (by rw [hl.out]; exact Nat.le_refl _)] at hov hdd
      cases dd
      · have HLZ0 := Lib.hid (outT_not a b X hdd.out.symm)
        have HLW : Hid ((outT a b X).length = X.length) := Lib.hid (by unfold outT; rw [← hdd.out]; rfl)
        have HLZ : Hid ((ins a b X).length = (outT a b X).length + 1) := Lib.hid (by rw [← HLZ0.out]; simp)
        have HB := Lib.hid bxv
        have HO := Lib.hid hov
        have hln2 : (outT a b X).length + 1 ≤ 1099511627776 := by have := HLW.out; have := hl.out; omega
        have hz3 : w.heap.size + 3 ≤ wr.heap.size := by omega
        clear bxv hov
        have hbl1 : Below wr.heap.size wr (wr.alloc (Obj.cells #[Value.int .i64 a, .int .i64 b] 3)) := (Below.refl _ _).alloc (Nat.le_refl _) _
        have hbl2 : Below wr.heap.size wr ((wr.alloc (Obj.cells #[Value.int .i64 a, .int .i64 b] 3)).alloc (Obj.cells #[Value.slice (some ⟨wr.heap.size, 0, none⟩) 2 2] 27)) := hbl1.alloc hbl1.size _
        have hown2 := HO.out.new hbl2
        have hrow2 := (Row.made (w := wr) wr.heap.size #[Value.int .i64 a, .int .i64 b] 2 3 (Nat.le_refl _) rfl (by decide)).new ((Below.refl _ _).alloc (Nat.le_refl _) (Obj.cells #[Value.slice (some ⟨wr.heap.size, 0, none⟩) 2 2] 27))
        have hr2 := Rd.made (wr.alloc (Obj.cells #[Value.int .i64 a, .int .i64 b] 3)) #[Value.slice (some ⟨wr.heap.size, 0, none⟩) 2 2] 27
        rw [show (wr.alloc (Obj.cells #[Value.int .i64 a, .int .i64 b] 3)).heap.size = wr.heap.size + 1 by simp] at hr2
        have hbxb := HB.out.new hbl2
        have D1 := HB.out.two.2
        have D1q : (wr.alloc (Obj.cells #[Value.int .i64 a, .int .i64 b] 3)).cell? ⟨w.heap.size + 2, 1, none⟩ = some v := (HB.out.new hbl1).two.2
        have HS := Lib.hid (show w.heap.size + 3 ≤ wr.heap.size from hz3)
        have HBQ := Lib.hid hbl2
        obtain ⟨Wb, hWb⟩ : ∃ z : World, z = (wr.alloc (Obj.cells #[Value.int .i64 a, .int .i64 b] 3)).alloc (Obj.cells #[Value.slice (some ⟨wr.heap.size, 0, none⟩) 2 2] 27) := ⟨_, rfl⟩
        rw [← hWb] at hown2 hrow2 hr2 hbxb HBQ
        have hWb' := hWb.symm
        clear hWb hbl1 hbl2 hz3
        go_wp2_with (at_builtin; refine wpList_appSS (X := outT a b X) (x := [a, b]) (u := .slice (some ⟨wr.heap.size, 0, none⟩) 2 2) (v := v) (L := w.heap.size + 3) (M := wr.heap.size) (lo := wr.heap.size) (hi := wr.heap.size + 1) (c := 1) (ad := ⟨wr.heap.size + 1, 0, none⟩) rfl (.tmp 73) (.tmp 77) rfl rfl rfl hown2 hrow2 hr2 (Nat.le_refl _) HS.out (by have := HLW.out; have := hl.out; omega) (Nat.le_trans HS.out HBQ.out.size) ?_; intro v7 w7 hown7 hbw7; obtain ⟨A7, c7, rfl, _, _, _⟩ := hown7.rd (n := (outT a b X).length + 1) (by simp); have bx7 : Bx w7 (w.heap.size + 2) 26 #[Value.int IntKind.i64 m, v] := (hbw7.block _ (Nat.lt_succ_self _)).trans hbxb; have c7q := bx7.two.2; have f7 := bx7.free 1; obtain ⟨q70, q71⟩ := (show Bx w7 w.heap.size 26 #[Value.int IntKind.i64 m, Value.slice A k c] from (hbw7.block _ (by omega)).trans (bxa.new HBQ.out)).two)
        obtain ⟨wq, hwq⟩ : ∃ z : World, z = w7.setCell ⟨w.heap.size + 1 + 1, 1, none⟩ (.slice A7 ((outT a b X).length + 1) c7) := ⟨_, rfl⟩
        rw [← hwq]
        have hch : Below (w.heap.size + 2) wr w7 := (HBQ.out.mono (by have := HS.out; omega)).trans (hbw7.mono (by omega))
        have hb39 : Below (w.heap.size + 2) wr wq := by rw [hwq]; exact hch.setCell (Nat.le_refl _) _
        have HBold := HB
        clear HB
        have HB : Hid (Bx wq (w.heap.size + 2) 26 #[Value.int IntKind.i64 m, .slice A7 ((outT a b X).length + 1) c7]) := Lib.hid (by rw [hwq]; exact bx7.set 1 _)
        have HOold := HO
        clear HO
        have HO : Hid (OwnSS wq (w.heap.size + 3) wq.heap.size (.slice A7 ((outT a b X).length + 1) c7) (ins a b X)) := Lib.hid (by rw [hwq, ← HLZ0.out]; exact (hown7.setFar (.inl (Nat.lt_succ_self _)) _).wide (Nat.le_refl _) (by simp))
        have bxq1 : Bx wq w.heap.size 26 #[Value.int IntKind.i64 m, Value.slice A k c] := (hb39.block _ (by omega)).trans bxa
        have bxq2 : Bx wq (w.heap.size + 1) 26 #[Value.int IntKind.i64 0, Value.slice none 0 0] := (hb39.block _ (by omega)).trans bxb
        obtain ⟨P0, P1⟩ := bxq1.two
        have hrq := hrk.below (hb39.mono (by omega))
        have hbq0 := hbk.trans (hb39.mono (by omega))
        have HZ2 := Lib.hid (show w.heap.size ≤ wq.heap.size from hbq0.size)
        have HZ3 := Lib.hid (show w.heap.size + 3 ≤ wq.heap.size from Nat.le_trans HS.out hb39.size)
        clear q70 q71 hwq bx7 c7q f7 HBold HOold HBQ hown7 hbw7 hr2 hrow2 hown2 hbxb hWb' D1 D1q HS C0 C1 hrk hbk bxa bxb hdd
        go_wp2_with fail
        refine (specIsGraph_any (N := m) (X := X) (c := c) hl hn (hrq.more HZ2.out)).mono ?_
        rintro e w5 ⟨rfl, hb5⟩
        rw [HG.out]
        have hbz := hbq0.trans (hb5.mono hbq0.size)
        have HB5 := Lib.hid (HB.out.new hb5)
        have HO5 := Lib.hid ((HO.out.new hb5).wide (Nat.le_refl _) hb5.size)
        have bx15 := bxq1.new hb5
        have HBR := Lib.hid (bxq2.new hb5)
        have hr5 := hrq.below (hb5.mono (by have := hbq0.size; omega))
        obtain ⟨F0, F1⟩ := HB5.out.two
        have hz5 := hb5.size
        clear bxq1 bxq2 hrq
        go_wp2_with fail
        refine (specIsGraph_any (N := m) (X := ins a b X) (n := (outT a b X).length + 1) HLZ hln2 HO5.out.rd').mono ?_
        rintro e w6 ⟨rfl, hb6⟩
        have hb9 := hbz.trans (hb6.mono hbz.size)
        obtain ⟨G0, G1⟩ := (HB5.out.new hb6).two
        obtain ⟨I0, I1⟩ := (bx15.new hb6).two
        have bxr := HBR.out.new hb6
        have hz6 := hb6.size
        have hr6 := hr5.below (hb6.mono (by have := hbz.size; omega))
        by_cases hcan : gB m (ins a b X) = true
        · have HCf := Lib.hid (show canA m X a b = true by unfold canA; rw [HG.out, hcan]; rfl)
          have HLx := Lib.hid (show addL m X a b = ins a b X by unfold addL; rw [HCf.out]; rfl)
          have HCN := Lib.hid hcan
          rw [hcan]
          have hk := keep_result #[.int .i64 m, .slice A7 ((outT a b X).length + 1) c7] ((HO5.out.new hb6).wide (Nat.le_refl _) hz6) hb9 (by omega) (by have := HZ3.out; omega)
          clear hcan
          go_wp2_with (first | (refine ldGR rfl (.tmp 8) rfl (HB5.out.new hb6) rfl rfl ?_) | (refine stGR rfl (.tmp 6) (.tmp 90) rfl bxr rfl rfl rfl rfl ?_))
          refine bodyPost_ret (resGB rfl (bxr.setRow _) rfl rfl rfl) rfl ⟨.slice A7 ((outT a b X).length + 1) c7, by rw [HCf.out]; rfl, by rw [HLx.out]; exact hk.1, hk.2⟩
        · have hcan' : gB m (ins a b X) = false := by simpa using hcan
          have HCf := Lib.hid (show canA m X a b = false by unfold canA; rw [hcan', Bool.and_false])
          have HLx := Lib.hid (show addL m X a b = X by unfold addL; rw [HCf.out]; rfl)
          rw [hcan']
          clear hcan hcan'
          go_wp2_with fail
          refine (specL4Copy_any hl hn hs (hr6.more (by have := hb9.size; omega))).mono ?_
          rintro e w8 ⟨v8, rfl, hown8, hb8⟩
          have bxr8 := bxr.new hb8
          have hv8 := hown8.one
          have hk := keep_result #[.int .i64 m, v8] hown8 (hb9.trans (hb8.mono hb9.size)) (by have := HZ3.out; omega) (by have := HZ3.out; have := hb8.size; omega)
          go_wp2_with (first | (refine stGR rfl (.tmp 6) (.tmp 89) rfl bxr8 rfl hv8 rfl rfl ?_))
          refine bodyPost_ret (resGB rfl (bxr8.setRow _) rfl rfl rfl) rfl ⟨v8, by rw [HCf.out]; rfl, by rw [HLx.out]; exact hk.1, hk.2⟩
      · have HLZ0 := Lib.hid (outT_end a b X hdd.out.symm)
        rw [HLZ0.out] at hov
        have HLZ : Hid ((ins a b X).length = X.length + 1) := Lib.hid (ins_len a b X)
        obtain ⟨Av, cv, rfl, _, _, _⟩ := hov.rd (n := X.length + 1) HLZ.out
        have hln2 : X.length + 1 ≤ 1099511627776 := by have := hl.out; omega
        have HB := Lib.hid bxv
        have HO := Lib.hid hov
        have bxq1 := bxa
        have bxq2 := bxb
        have hrq := hrk
        have hbq0 := hbk
        have HZ2 := Lib.hid (show w.heap.size ≤ wr.heap.size from hbq0.size)
        have HZ3 := Lib.hid (show w.heap.size + 3 ≤ wr.heap.size by omega)
        clear bxv hov bxa bxb hdd hrk hbk
        go_wp2_with fail
        refine (specIsGraph_any (N := m) (X := X) (c := c) hl hn (hrq.more HZ2.out)).mono ?_
        rintro e w5 ⟨rfl, hb5⟩
        rw [HG.out]
        have hbz := hbq0.trans (hb5.mono hbq0.size)
        have HB5 := Lib.hid (HB.out.new hb5)
        have HO5 := Lib.hid ((HO.out.new hb5).wide (Nat.le_refl _) hb5.size)
        have bx15 := bxq1.new hb5
        have HBR := Lib.hid (bxq2.new hb5)
        have hr5 := hrq.below (hb5.mono (by have := hbq0.size; omega))
        obtain ⟨F0, F1⟩ := HB5.out.two
        have hz5 := hb5.size
        clear bxq1 bxq2 hrq
        go_wp2_with fail
        refine (specIsGraph_any (N := m) (X := ins a b X) (n := X.length + 1) HLZ hln2 HO5.out.rd').mono ?_
        rintro e w6 ⟨rfl, hb6⟩
        have hb9 := hbz.trans (hb6.mono hbz.size)
        obtain ⟨G0, G1⟩ := (HB5.out.new hb6).two
        obtain ⟨I0, I1⟩ := (bx15.new hb6).two
        have bxr := HBR.out.new hb6
        have hz6 := hb6.size
        have hr6 := hr5.below (hb6.mono (by have := hbz.size; omega))
        by_cases hcan : gB m (ins a b X) = true
        · have HCf := Lib.hid (show canA m X a b = true by unfold canA; rw [HG.out, hcan]; rfl)
          have HLx := Lib.hid (show addL m X a b = ins a b X by unfold addL; rw [HCf.out]; rfl)
          have HCN := Lib.hid hcan
          rw [hcan]
          have hk := keep_result #[.int .i64 m, .slice Av (X.length + 1) cv] ((HO5.out.new hb6).wide (Nat.le_refl _) hz6) hb9 (by omega) (by have := HZ3.out; omega)
          clear hcan
          go_wp2_with (first | (refine ldGR rfl (.tmp 8) rfl (HB5.out.new hb6) rfl rfl ?_) | (refine stGR rfl (.tmp 6) (.tmp 90) rfl bxr rfl rfl rfl rfl ?_))
          refine bodyPost_ret (resGB rfl (bxr.setRow _) rfl rfl rfl) rfl ⟨.slice Av (X.length + 1) cv, by rw [HCf.out]; rfl, by rw [HLx.out]; exact hk.1, hk.2⟩
        · have hcan' : gB m (ins a b X) = false := by simpa using hcan
          have HCf := Lib.hid (show canA m X a b = false by unfold canA; rw [hcan', Bool.and_false])
          have HLx := Lib.hid (show addL m X a b = X by unfold addL; rw [HCf.out]; rfl)
          rw [hcan']
          clear hcan hcan'
          go_wp2_with fail
          refine (specL4Copy_any hl hn hs (hr6.more (by have := hb9.size; omega))).mono ?_
          rintro e w8 ⟨v8, rfl, hown8, hb8⟩
          have bxr8 := bxr.new hb8
          have hv8 := hown8.one
          have hk := keep_result #[.int .i64 m, v8] hown8 (hb9.trans (hb8.mono hb9.size)) (by have := HZ3.out; omega) (by have := HZ3.out; have := hb8.size; omega)
          go_wp2_with (first | (refine stGR rfl (.tmp 6) (.tmp 89) rfl bxr8 rfl hv8 rfl rfl ?_))
          refine bodyPost_ret (resGB rfl (bxr8.setRow _) rfl rfl rfl) rfl ⟨v8, by rw [HCf.out]; rfl, by rw [HLx.out]; exact hk.1, hk.2⟩
end Go.Proofs.YtjhknafajfpldaaDoor
