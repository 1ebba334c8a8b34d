/- The draws of chapter 13: l13Draw, l13Any and the six draws over them. -/
import Derived.Test.YtignchefkihdaaaRaiM
import Derived.Test.YtignchefkihdaaaRepM
import Derived.Test.YtignchefkihdaaaDraw3
import Derived.Test.YtignchefkihdaaaPointB
namespace Go.Proofs.Ytignchefkihdaaa
open Go.ChangeShapes Go.WideShapes Go.ChangeAt Go.RowKit
set_option maxRecDepth 100000
/-- Points were drawn into a new row. -/
def DrawnP (B : Nat) (A : Option Addr) (n c : Nat) (w : World) (e : Ending) (w' : World) : Prop :=
  ∃ v X, e = .returned v ∧ Row3 w' w.heap.size w'.heap.size 48 v X ∧ X.length ≤ 10 ∧ w.grownBy w' (some B) ∧ Cur w' B A n c
theorem raiL_lenD (X : List T3) (k s : Int) : (raiL X k s).length ≤ X.length + 1 := by
  unfold raiL
  split
  · rw [rai_len]; exact Nat.le_refl _
  · omega
set_option maxHeartbeats 8000000 in
theorem l13Draw_any {w : World} {B n c : Nat} {A : Option Addr} (h : Cur w B A n c) : Calls Try.prog 141 #[.pointer (some ⟨B, 0, none⟩)] w (DrawnP B A n c w) := by
  have hBw := h.lt
  have hb0 : Below w.heap.size w (w.alloc (Obj.cells #[] 48)) := (Below.refl _ _).alloc (Nat.le_refl _) _
  have hrow0 : Row3 (w.alloc (Obj.cells #[] 48)) w.heap.size (w.alloc (Obj.cells #[] 48)).heap.size 48 (.slice (some ⟨w.heap.size, 0, none⟩) 0 0) [] := (Row3.made (w := w) w.heap.size #[] 0 (Nat.le_refl _) rfl rfl (Nat.zero_le _)).wide (Nat.le_refl _) (by simp)
  have cur0 := h.alloc (Obj.cells #[] 48)
  have g0 := only_new hb0 (some B)
  obtain ⟨W0, hW0⟩ : ∃ u : World, w.alloc (Obj.cells #[] 48) = u := ⟨_, rfl⟩
  rw [hW0] at hrow0 cur0 g0
  have HW0 := Lib.hid hW0
  clear hW0 hb0
  go_enter Try.func141, Try.ntmps141
  go_wp2_with fail
  rw [HW0.out]
  refine (below_any cur0 10 (by omega)).mono ?_
  rintro e w1 ⟨p, ⟨p0, p1⟩, rfl, hg1, cur1⟩
  obtain ⟨m, rfl⟩ := Int.eq_ofNat_of_zero_le p0
  have row1 := row3_only hrow0 hg1 hBw
  have g1 := only_trans g0 hg1
  clear hrow0 cur0 g0 hg1 HW0
  go_wp2_with fail
  go_loopw [3, 4] (fun s i wr => ∃ (k : Nat) (X : List T3), k ≤ 9 ∧ i = .int .i64 k ∧ Row3 wr w.heap.size wr.heap.size 48 s X ∧ X.length + k ≤ 10 ∧ w.grownBy wr (some B) ∧ Cur wr B A n c) (fun _ i _ => (intOf i).toNat)
  case atStart => exact ⟨m, [], by omega, rfl, row1, by simp; omega, g1, cur1⟩
  case round =>
    obtain ⟨k, X, hk, rfl, hrow, hxl, hg, hcur⟩ := hrel
    clear row1 g1 cur1 p0 p1
    by_cases hk0 : (0 : Int) < (k : Int)
    · have hk1 : 0 < k := by omega
      go_wp2_with fail
      refine (below_any hcur 6 (by omega)).mono ?_
      rintro e w2 ⟨a, ⟨a0, a1⟩, rfl, hg2, cur2⟩
      have row2 := row3_only hrow hg2 hBw
      have g2 := only_trans hg hg2
      have ww1 := IntWalk.i64_in (1 + a) (by omega)
      clear hrow hcur hg hg2
      go_wp2_with fail
      refine (below_any cur2 2 (by omega)).mono ?_
      rintro e w3 ⟨b, ⟨b0, b1⟩, rfl, hg3, cur3⟩
      have row3 := row3_only row2 hg3 hBw
      have g3 := only_trans g2 hg3
      have hz3 := g3.size
      have ww2 := IntWalk.i64_in (1 + b) (by omega)
      clear row2 cur2 g2 hg3
      obtain ⟨A3, c3, rfl, rd3, q3, _⟩ := row3.rd (n := X.length) rfl
      clear row3
      go_wp2_with fail
      refine (specRaise_any (X := X) (Lib.hid rfl) (by omega) q3 rd3).mono ?_
      rintro e w4 ⟨v4, rfl, row4, r4⟩
      have hl4 := raiL_lenD X (1 + a) (1 + b)
      obtain ⟨Y, hY⟩ : ∃ Y, raiL X (1 + a) (1 + b) = Y := ⟨_, rfl⟩
      rw [hY] at row4 hl4
      have row4 := row4.wide hz3 (Nat.le_refl _)
      have g4 := only_then g3 (r4.mono hz3)
      have cur4 := cur3.below r4
      have hz4 := g4.size
      clear hY g3 cur3 r4 rd3 ww1 ww2 a0 a1 b0 b1
      go_wp2_with fail
      refine (below_any cur4 6 (by omega)).mono ?_
      rintro e w5 ⟨a', ⟨a0, a1⟩, rfl, hg5, cur5⟩
      have row5 := row3_only row4 hg5 hBw
      have g5 := only_trans g4 hg5
      have ww1 := IntWalk.i64_in (1 + a') (by omega)
      clear row4 cur4 g4 hg5
      go_wp2_with fail
      refine (below_any cur5 2 (by omega)).mono ?_
      rintro e w6 ⟨b', ⟨b0, b1⟩, rfl, hg6, cur6⟩
      have row6 := row3_only row5 hg6 hBw
      have g6 := only_trans g5 hg6
      have ww2 := IntWalk.i64_in (1 + b') (by omega)
      clear row5 cur5 g5 hg6
      go_wp2_with fail
      refine (below_any cur6 4 (by omega)).mono ?_
      rintro e w7 ⟨s', ⟨s0, s1⟩, rfl, hg7, cur7⟩
      have row7 := row3_only row6 hg7 hBw
      have g7 := only_trans g6 hg7
      have hz7 := g7.size
      have ww3 := IntWalk.i64_in (1 + s') (by omega)
      clear row6 cur6 g6 hg7
      obtain ⟨A7, c7, rfl, rd7, q7, _⟩ := row7.rd (n := Y.length) rfl
      clear row7
      go_wp2_with fail
      refine (specReply_any (X := Y) (Lib.hid rfl) (by omega) rd7).mono ?_
      rintro e w8 ⟨v8, rfl, row8, r8⟩
      have hl8 := rep_len Y (1 + a') (1 + b') (1 + s')
      obtain ⟨Z, hZ⟩ : ∃ Z, repL Y (1 + a') (1 + b') (1 + s') = Z := ⟨_, rfl⟩
      rw [hZ] at row8 hl8
      have row8 := row8.wide hz7 (Nat.le_refl _)
      have g8 := only_then g7 (r8.mono hz7)
      have cur8 := cur7.below r8
      have ww4 := IntWalk.i64_in ((k : Int) - 1) (by omega)
      clear hZ g7 cur7 r8 rd7 ww1 ww2 ww3
      go_wp2_with fail
      go_roundw
      case rel => exact ⟨k - 1, Z, by omega, by congr 1; omega, row8, by omega, g8, cur8⟩
      case measure => simp [intOf]; omega
    · go_wp2_with fail
      go_ret
      exact ⟨_, X, rfl, hrow, by omega, hg, hcur⟩
set_option maxHeartbeats 8000000 in
theorem l13Any_any {w : World} {B n c : Nat} {A : Option Addr} (h : Cur w B A n c) : Calls Try.prog 95 #[.pointer (some ⟨B, 0, none⟩)] w (DrawnP B A n c w) := by
  have hBw := h.lt
  go_enter Try.func95, Try.ntmps95
  go_wp2_with fail
  refine (l13Draw_any h).mono ?_
  rintro e w1 ⟨v, X, rfl, hrow, hxl, g1, cur1⟩
  have HROW1 := Lib.hid hrow
  clear hrow h
  obtain ⟨Av, cv, rfl, _, _, _⟩ := HROW1.out.rd (n := X.length) rfl
  by_cases h0 : X.length = 0
  · have hx0 : (X.length : Int) = 0 := by omega
    have hx1 : ¬ (0 : Int) < (X.length : Int) := by omega
    go_wp2_with fail
    go_ret
    exact ⟨_, X, rfl, (by have q := HROW1.out; rw [h0] at q; exact q), by omega, g1, cur1⟩
  · have hx1 : (0 : Int) < (X.length : Int) := by omega
    go_wp2_with fail
    go_at_call 88
    refine (below_any cur1 X.length (by omega)).mono ?_
    rintro e w2 ⟨i', ⟨q0, q1⟩, rfl, hg2, cur2⟩
    obtain ⟨i, rfl⟩ : ∃ i : Nat, i' = i := ⟨i'.toNat, by omega⟩
    have g2 := only_trans g1 hg2
    have row2 := row3_only HROW1.out hg2 hBw
    have HROW2 := Lib.hid row2
    clear row2
    go_wp2_with fail
    go_at_call 88
    refine (below_any cur2 12 (by omega)).mono ?_
    rintro e w3 ⟨r, ⟨r0, r1⟩, rfl, hg3, cur3⟩
    have g3 := only_trans g2 hg3
    have row3 := row3_only HROW2.out hg3 hBw
    obtain ⟨g, c9, e9, hlo, hhi, hgs, hcc, hcm⟩ := row3.base (n := X.length) rfl (by omega)
    injection e9 with e9 _ e10
    subst e9 e10
    have HROW3 := Lib.hid row3
    have hi3 : i < X.length := by omega
    have i00 : (0 : Int) ≤ (i : Int) := by omega
    clear row3
    have hz3 := g3.size
    by_cases r00 : r = 0
    · subst r00
      have b3 : Below w3.heap.size w3 (w3.alloc (.cells ([0, 1, 99, 100].map (Value.int .i64)).toArray 3)) := (Below.refl _ _).alloc (Nat.le_refl _) _
      have hir := introw_alloc (fun _ => True) w3 [0, 1, 99, 100] 3 (by simp)
      have cur3a := cur3.alloc (.cells ([0, 1, 99, 100].map (Value.int .i64)).toArray 3)
      have hne : w3.heap.size ≠ B := by have := cur3.lt; omega
      have HIR := Lib.hid hir
      have g3a := only_then g3 (b3.mono hz3)
      have HROW3a := Lib.hid (row3_new HROW3.out b3)
      clear hir
      go_wp2_with fail
      go_at_call 96
      refine (int_any (fun _ => True) cur3a _ 4 hne (by omega) (by omega) HIR.out).mono ?_
      rintro e w4 ⟨d, _, rfl, hg4, cur4⟩
      have g4 := only_trans g3a hg4
      have row4 := row3_only HROW3a.out hg4 hBw
      obtain ⟨e0, hc0, hc1, hc2, f0, f1, f2⟩ := row3_at row4 hi3
      have HF := Lib.hid (row4.set (t3s_sets X i hi3 d).1)
      clear row4 b3
      go_wp2_with fail
      go_ret
      have b5 := below_set3 w4 (g := g) (o := i * 3) (x := d) hlo
      refine ⟨_, _, rfl, HF.out.wide (Nat.le_refl _) (by simp [World.setCell]), ?_, only_then g4 b5, cur4.below' b5 hBw⟩
      rw [List.length_set]; omega
    · by_cases r01 : r = 1
      · subst r01
        have b3 : Below w3.heap.size w3 (w3.alloc (.cells ([0, 2, 3].map (Value.int .i64)).toArray 3)) := (Below.refl _ _).alloc (Nat.le_refl _) _
        have hir := introw_alloc (fun _ => True) w3 [0, 2, 3] 3 (by simp)
        have cur3a := cur3.alloc (.cells ([0, 2, 3].map (Value.int .i64)).toArray 3)
        have hne : w3.heap.size ≠ B := by have := cur3.lt; omega
        have HIR := Lib.hid hir
        have g3a := only_then g3 (b3.mono hz3)
        have HROW3a := Lib.hid (row3_new HROW3.out b3)
        clear hir
        go_wp2_with fail
        go_at_call 96
        refine (int_any (fun _ => True) cur3a _ 3 hne (by omega) (by omega) HIR.out).mono ?_
        rintro e w4 ⟨d, _, rfl, hg4, cur4⟩
        have g4 := only_trans g3a hg4
        have row4 := row3_only HROW3a.out hg4 hBw
        obtain ⟨e0, hc0, hc1, hc2, f0, f1, f2⟩ := row3_at row4 hi3
        have HF := Lib.hid (row4.set (t3s_sets X i hi3 d).2.1)
        clear row4 b3
        go_wp2_with fail
        go_ret
        have b5 := below_set3 w4 (g := g) (o := i * 3 + 1) (x := d) hlo
        refine ⟨_, _, rfl, HF.out.wide (Nat.le_refl _) (by simp [World.setCell]), ?_, only_then g4 b5, cur4.below' b5 hBw⟩
        rw [List.length_set]; omega
      · by_cases r02 : r = 2
        · subst r02
          have b3 : Below w3.heap.size w3 (w3.alloc (.cells ([-1, 4, 5].map (Value.int .i64)).toArray 3)) := (Below.refl _ _).alloc (Nat.le_refl _) _
          have hir := introw_alloc (fun _ => True) w3 [-1, 4, 5] 3 (by simp)
          have cur3a := cur3.alloc (.cells ([-1, 4, 5].map (Value.int .i64)).toArray 3)
          have hne : w3.heap.size ≠ B := by have := cur3.lt; omega
          have HIR := Lib.hid hir
          have g3a := only_then g3 (b3.mono hz3)
          have HROW3a := Lib.hid (row3_new HROW3.out b3)
          clear hir
          go_wp2_with fail
          go_at_call 96
          refine (int_any (fun _ => True) cur3a _ 3 hne (by omega) (by omega) HIR.out).mono ?_
          rintro e w4 ⟨d, _, rfl, hg4, cur4⟩
          have g4 := only_trans g3a hg4
          have row4 := row3_only HROW3a.out hg4 hBw
          obtain ⟨e0, hc0, hc1, hc2, f0, f1, f2⟩ := row3_at row4 hi3
          have HF := Lib.hid (row4.set (t3s_sets X i hi3 d).2.2)
          clear row4 b3
          go_wp2_with fail
          go_ret
          have b5 := below_set3 w4 (g := g) (o := i * 3 + 2) (x := d) hlo
          refine ⟨_, _, rfl, HF.out.wide (Nat.le_refl _) (by simp [World.setCell]), ?_, only_then g4 b5, cur4.below' b5 hBw⟩
          rw [List.length_set]; omega
        · have q0 : (r == 0) = false := by simpa using r00
          have q1' : (r == 1) = false := by simpa using r01
          have q2 : (r == 2) = false := by simpa using r02
          go_wp2_with fail
          go_ret
          exact ⟨_, X, rfl, HROW3.out, by omega, g3, cur3⟩
/-- Points in memory of their own, and what comes with them. -/
def GivesP (w : World) (e : Ending) (w' : World) : Prop := ∃ v X, e = .returned v ∧ Row3 w' w.heap.size w'.heap.size 48 v X ∧ X.length ≤ 10 ∧ Below w.heap.size w w'
def GivesPI (w : World) (e : Ending) (w' : World) : Prop := ∃ (v : Value) (X : List T3) (q : Int), e = .returned (.tuple #[v, .int .i64 q]) ∧ Row3 w' w.heap.size w'.heap.size 48 v X ∧ X.length ≤ 10 ∧ Below w.heap.size w w'
def GivesPII (w : World) (e : Ending) (w' : World) : Prop := ∃ (v : Value) (X : List T3) (k q : Int), (0 ≤ q ∧ q < 4) ∧ e = .returned (.tuple #[v, .int .i64 k, .int .i64 q]) ∧ Row3 w' w.heap.size w'.heap.size 48 v X ∧ X.length ≤ 10 ∧ Below w.heap.size w w'
def GivesPIII (w : World) (e : Ending) (w' : World) : Prop := ∃ (v : Value) (X : List T3) (k q s : Int), (0 ≤ q ∧ q < 4) ∧ e = .returned (.tuple #[v, .int .i64 k, .int .i64 q, .int .i64 s]) ∧ Row3 w' w.heap.size w'.heap.size 48 v X ∧ X.length ≤ 10 ∧ Below w.heap.size w w'
theorem drawArP {w : World} {A : Option Addr} {n c : Nat} (h : Code8 w A n) : Calls Try.prog 98 #[.slice A n c] w (GivesP w) := by
  go_enter Try.func98, Try.ntmps98
  go_wp2_with fail
  refine (new_any h).mono ?_
  rintro e w1 ⟨rfl, hb1, cur1⟩
  go_wp2_with fail
  refine (l13Any_any cur1).mono ?_
  rintro e w2 ⟨v, X, rfl, hrow, hx, hg, _⟩
  go_wp2_with fail
  go_ret
  exact ⟨v, X, rfl, hrow.wide hb1.size (Nat.le_refl _), hx, cur_below hb1 hg (Nat.le_refl _)⟩
theorem drawSet {w : World} {A : Option Addr} {n c : Nat} (h : Code8 w A n) : Calls Try.prog 32 #[.slice A n c] w (GivesP w) := by
  go_enter Try.func32, Try.ntmps32
  go_wp2_with fail
  refine (drawArP h).mono ?_
  rintro e w2 ⟨v, X, rfl, hrow, hx, hb⟩
  go_wp2_with fail
  go_ret
  exact ⟨v, X, rfl, hrow, hx, hb⟩
theorem drawMst {w : World} {A : Option Addr} {n c : Nat} (h : Code8 w A n) : Calls Try.prog 99 #[.slice A n c] w (GivesPI w) := by
  go_enter Try.func99, Try.ntmps99
  go_wp2_with fail
  refine (new_any h).mono ?_
  rintro e w1 ⟨rfl, hb1, cur1⟩
  go_wp2_with fail
  refine (l13Any_any cur1).mono ?_
  rintro e w2 ⟨v, X, rfl, hrow, hx, hg, cur2⟩
  have hlt := cur1.lt
  obtain ⟨Av, cv, rfl, _, _, _⟩ := hrow.rd (n := X.length) rfl
  go_wp2_with fail
  refine (below_any cur2 4 (by omega)).mono ?_
  rintro e w3 ⟨q, _, rfl, hg3, _⟩
  go_wp2_with fail
  refine bodyPost_ret (v := .tuple #[.slice Av X.length cv, .int .i64 q]) (by simp [results, Try.results99, go_sem]) rfl ?_
  exact ⟨_, X, q, rfl, (row3_only hrow hg3 hlt).wide hb1.size (Nat.le_refl _), hx, cur_below hb1 (only_trans hg hg3) (Nat.le_refl _)⟩
theorem drawWon {w : World} {A : Option Addr} {n c : Nat} (h : Code8 w A n) : Calls Try.prog 34 #[.slice A n c] w (GivesPI w) := by
  go_enter Try.func34, Try.ntmps34
  go_wp2_with fail
  refine (drawMst h).mono ?_
  rintro e w2 ⟨v, X, q, rfl, hrow, hx, hb⟩
  go_wp2_with fail
  refine bodyPost_ret (v := .tuple #[v, .int .i64 q]) (by simp [results, Try.results34, go_sem]) rfl ?_
  exact ⟨v, X, q, rfl, hrow, hx, hb⟩
theorem drawRai {w : World} {A : Option Addr} {n c : Nat} (h : Code8 w A n) : Calls Try.prog 30 #[.slice A n c] w (GivesPII w) := by
  go_enter Try.func30, Try.ntmps30
  go_wp2_with fail
  refine (new_any h).mono ?_
  rintro e w1 ⟨rfl, hb1, cur1⟩
  have hlt := cur1.lt
  go_wp2_with fail
  refine (l13Any_any cur1).mono ?_
  rintro e w2 ⟨v, X, rfl, hrow, hx, hg, cur2⟩
  clear cur1
  go_wp2_with fail
  refine (below_any cur2 8 (by omega)).mono ?_
  rintro e w3 ⟨a, _, rfl, hg3, cur3⟩
  have row3 := row3_only hrow hg3 hlt
  have g3 := only_trans hg hg3
  clear hrow hg hg3 cur2
  go_wp2_with fail
  refine (below_any cur3 8 (by omega)).mono ?_
  rintro e w4 ⟨b, _, rfl, hg4, cur4⟩
  have row4 := row3_only row3 hg4 hlt
  have g4 := only_trans g3 hg4
  have hz4 := g4.size
  clear row3 g3 hg4 cur3
  have b5 : Below w4.heap.size w4 (w4.alloc (.cells ([a, b, 99, 100].map (Value.int .i64)).toArray 3)) := (Below.refl _ _).alloc (Nat.le_refl _) _
  have hir := introw_alloc (fun _ => True) w4 [a, b, 99, 100] 3 (by simp)
  have cur5 := cur4.alloc (.cells ([a, b, 99, 100].map (Value.int .i64)).toArray 3)
  have hne : w4.heap.size ≠ w.heap.size := by have := cur4.lt; omega
  have HIR := Lib.hid hir
  have row5 := row3_new row4 b5
  have g5 := only_then g4 (b5.mono hz4)
  clear hir b5 row4 g4
  go_wp2_with fail
  refine (int_any (fun _ => True) cur5 _ 4 hne (by omega) (by omega) HIR.out).mono ?_
  rintro e w6 ⟨d, _, rfl, hg6, cur6⟩
  have row6 := row3_only row5 hg6 hlt
  have g6 := only_trans g5 hg6
  clear row5 g5 hg6 cur5 HIR
  go_wp2_with fail
  refine (below_any cur6 4 (by omega)).mono ?_
  rintro e w7 ⟨q, hq, rfl, hg7, cur7⟩
  have row7 := row3_only row6 hg7 hlt
  have g7 := only_trans g6 hg7
  clear row6 g6 hg7 cur6
  go_wp2_with fail
  refine bodyPost_ret (v := .tuple #[v, .int .i64 d, .int .i64 q]) (by simp [results, Try.results30, go_sem]) rfl ?_
  exact ⟨v, X, d, q, hq, rfl, row7.wide hb1.size (Nat.le_refl _), hx, cur_below hb1 g7 (Nat.le_refl _)⟩
theorem drawRep {w : World} {A : Option Addr} {n c : Nat} (h : Code8 w A n) : Calls Try.prog 25 #[.slice A n c] w (GivesPIII w) := by
  go_enter Try.func25, Try.ntmps25
  go_wp2_with fail
  refine (drawRai h).mono ?_
  rintro e w2 ⟨v, X, k, q, hq, rfl, hrow, hx, hb⟩
  have h2 := h.below hb
  clear h
  go_wp2_with fail
  refine (new_any h2).mono ?_
  rintro e w3 ⟨rfl, hb3, cur3⟩
  go_wp2_with fail
  refine (below_any cur3 6 (by omega)).mono ?_
  rintro e w4 ⟨s, _, rfl, hg4, _⟩
  have b4 := cur_below hb3 hg4 (Nat.le_refl _)
  go_wp2_with fail
  refine bodyPost_ret (v := .tuple #[v, .int .i64 k, .int .i64 q, .int .i64 s]) (by simp [results, Try.results25, go_sem]) rfl ?_
  exact ⟨v, X, k, q, s, hq, rfl, row3_new hrow b4, hx, hb.trans (b4.mono hb.size)⟩
end Go.Proofs.Ytignchefkihdaaa
