/- The draws of chapter 16: l16Any gives at most five ballots in memory of its own. -/
import Derived.Test.YtngelnkpoojgfaaBalM2
import Derived.Test.YtngelnkpoojgfaaDrawS
import Derived.Test.YtngelnkpoojgfaaBallotB
import Derived.Test.YtngelnkpoojgfaaSet3
namespace Go.Proofs.Ytngelnkpoojgfaa
open Go.ChangeShapes Go.WideShapes Go.ChangeAt Go.RowKit
set_option maxRecDepth 100000
/-- Ballots were drawn into a new row. -/
def DrawnB (B : Nat) (A : Option Addr) (n c : Nat) (w : World) (e : Ending) (w' : World) : Prop :=
  ∃ v X, e = .returned v ∧ Row3 w' w.heap.size w'.heap.size 51 v X ∧ X.length ≤ 5 ∧ w.grownBy w' (some B) ∧ Cur w' B A n c
theorem row3_only {w w' : World} {lo B : Nat} {t : TypeId} {v : Value} {X : List T3} (h : Row3 w lo w.heap.size t v X) (g : w.grownBy w' (some B)) (hB : B < lo) : Row3 w' lo w'.heap.size t v X :=
  (h.out (Out.of_only g) (.inr (by omega))).wide (Nat.le_refl _) g.size
theorem row3_new {w w' : World} {lo : Nat} {t : TypeId} {v : Value} {X : List T3} (h : Row3 w lo w.heap.size t v X) (b : Below w.heap.size w w') : Row3 w' lo w'.heap.size t v X :=
  (h.new b).wide (Nat.le_refl _) b.size
theorem row3_at {w : World} {lo hi g n c k : Nat} {t : TypeId} {X : List T3} (h : Row3 w lo hi t (.slice (some ⟨g, 0, none⟩) n c) X) (hk : k < X.length) :
    (⟨g, 0, none⟩ : Addr).add (k * 3) = ⟨g, k * 3, none⟩ ∧ w.cell? ⟨g, k * 3, none⟩ = some (.int .i64 X[k].1) ∧ w.cell? ⟨g, k * 3 + 1, none⟩ = some (.int .i64 X[k].2.1) ∧ w.cell? ⟨g, k * 3 + 2, none⟩ = some (.int .i64 X[k].2.2) ∧ w.frozen? ⟨g, k * 3, none⟩ = false ∧ w.frozen? ⟨g, k * 3 + 1, none⟩ = false ∧ w.frozen? ⟨g, k * 3 + 2, none⟩ = false := by
  have e : (⟨g, 0, none⟩ : Addr).add (k * 3) = ⟨g, k * 3, none⟩ := by rw [Addr.add_lit]; simp
  obtain ⟨ad, p, e1, e2, _, h0, h1, h2⟩ := t3_cells h.rd' hk
  injection e1 with e1
  subst e1
  rw [e] at e2
  subst e2
  exact ⟨e, h0, h1, h2, h.froz, h.froz, h.froz⟩
theorem below_set3 (w : World) {L g o : Nat} {x : Int} (hg : L ≤ g) : Below L w (w.setCell ⟨g, o, none⟩ (.int .i64 x)) := (Below.refl _ _).setCell (p := ⟨g, o, none⟩) hg _
set_option maxHeartbeats 8000000 in
theorem l16Any_any {w : World} {B n c : Nat} {A : Option Addr} (h : Cur w B A n c) : Calls Try.prog 95 #[.pointer (some ⟨B, 0, none⟩)] w (DrawnB B A n c w) := by
  have hBw := h.lt
  have hb0 : Below w.heap.size w (w.alloc (Obj.cells #[] 51)) := (Below.refl _ _).alloc (Nat.le_refl _) _
  have hrow0 : Row3 (w.alloc (Obj.cells #[] 51)) w.heap.size (w.alloc (Obj.cells #[] 51)).heap.size 51 (.slice (some ⟨w.heap.size, 0, none⟩) 0 0) [] := (Row3.made (w := w) w.heap.size #[] 0 (Nat.le_refl _) rfl rfl (Nat.zero_le _)).wide (Nat.le_refl _) (by simp)
  have cur0 := h.alloc (Obj.cells #[] 51)
  have g0 := only_new hb0 (some B)
  obtain ⟨i0, hi, ii0, ii1, ii2⟩ := info_parts BallotS_info
  go_enter Try.func95, Try.ntmps95
  go_wp2_with fail
  go_loopw [3, 4] (fun s i wr => ∃ (k : Nat) (X : List T3), 1 ≤ k ∧ k ≤ 6 ∧ i = .int .i64 k ∧ Row3 wr w.heap.size wr.heap.size 51 s X ∧ X.length + 1 ≤ k ∧ w.grownBy wr (some B) ∧ Cur wr B A n c) (fun _ i _ => 7 - (intOf i).toNat)
  case atStart => exact ⟨1, [], by omega, by omega, rfl, hrow0, by simp, g0, cur0⟩
  case round =>
    obtain ⟨k, X, hk1, hk6, rfl, hrow, hxl, hg, hcur⟩ := hrel
    go_wp2_with fail
    go_at_call 98
    refine (below_any hcur 6 (by omega)).mono ?_
    rintro e w1 ⟨p, ⟨p0, p1⟩, rfl, hg1, cur1⟩
    have row1 := row3_only hrow hg1 hBw
    have g1 := only_trans hg hg1
    have HROW1 := Lib.hid row1
    clear hrow hcur hrow0 cur0 g0 hb0 hg hg1
    by_cases hkp : (k : Int) ≤ p
    · go_wp2_with fail
      go_at_call 98
      refine (below_any cur1 20 (by omega)).mono ?_
      rintro e w2 ⟨q, ⟨q0, q1⟩, rfl, hg2, cur2⟩
      have g2 := only_trans g1 hg2
      have row2 := row3_only HROW1.out hg2 hBw
      have hz2 := g2.size
      have b2 : Below w2.heap.size w2 (w2.alloc (.cells ([-3, -1, 1, 2].map (Value.int .i64)).toArray 3)) := (Below.refl _ _).alloc (Nat.le_refl _) _
      have hir := introw_alloc (fun z => -3 ≤ z ∧ z ≤ 2) w2 [-3, -1, 1, 2] 3 (by decide)
      have cur2a := cur2.alloc (.cells ([-3, -1, 1, 2].map (Value.int .i64)).toArray 3)
      have hne : w2.heap.size ≠ B := by have := cur2.lt; omega
      have ww1 := IntWalk.i64_in (2 * (k : Int)) (by omega)
      have ww2 := IntWalk.i64_in (60 + q) (by omega)
      have HIR := Lib.hid hir
      have HROW2 := Lib.hid (row3_new row2 b2)
      have g2a := only_then g2 (b2.mono hz2)
      clear row1 row2 hir b2
      go_wp2_with fail
      go_at_call 101
      refine (int_any (fun z => -3 ≤ z ∧ z ≤ 2) cur2a _ 4 hne (by omega) (by omega) HIR.out).mono ?_
      rintro e w3 ⟨d, ⟨d0, d1⟩, rfl, hg3, cur3⟩
      have row3 := row3_only HROW2.out hg3 hBw
      have g3 := only_trans g2a hg3
      have hz3 := g3.size
      have ww3 := IntWalk.i64_in (60 + q + d) (by omega)
      have b3 : Below w3.heap.size w3 (w3.alloc (Obj.cells #[.int .i64 (2 * (k : Int)), .int .i64 (60 + q), .int .i64 (60 + q + d)] 51)) := (Below.refl _ _).alloc (Nat.le_refl _) _
      have HMADE := Lib.hid (show Rd _ _ _ (t3s [(2 * (k : Int), 60 + q, 60 + q + d)]) from Rd.made w3 #[.int .i64 (2 * (k : Int)), .int .i64 (60 + q), .int .i64 (60 + q + d)] 51)
      have HROW3 := Lib.hid (row3_new row3 b3)
      have HCUR3 := Lib.hid (cur3.below b3)
      have G3 := Lib.hid (only_then g3 (b3.mono hz3))
      clear row3 cur3 g3 b3 HIR
      go_wp2_with (at_builtin; (refine wpList_app3 (m := 1) rfl (.tmp 17) (.tmp 27) 46 rfl 51 i0 _ 24 Try.underlying46 hi ii0 ii1 ii2 rfl rfl rfl HROW3.out rfl HMADE.out (by unfold maxLen; omega) (by omega) (by simp; omega) ?_; intro v9 w9 hrow9 ho9))
      have hb9 : Below w.heap.size (w3.alloc (Obj.cells #[.int .i64 (2 * (k : Int)), .int .i64 (60 + q), .int .i64 (60 + q + d)] 51)) w9 := ho9.below (Nat.le_refl _) (by simp; omega)
      go_roundw
      case rel => exact ⟨k + 1, X ++ [(2 * (k : Int), 60 + q, 60 + q + d)], by omega, by omega, by go_num, hrow9, by simp; omega, only_then G3.out hb9, HCUR3.out.below' hb9 hBw⟩
      case measure => simp [intOf]; omega
    · obtain ⟨Av, cv, rfl, _, _, _⟩ := HROW1.out.rd (n := X.length) rfl
      by_cases h0 : X.length = 0
      · have hx0 : (X.length : Int) = 0 := by omega
        have hx1 : ¬ (0 : Int) < (X.length : Int) := by omega
        go_wp2_with fail
        go_ret
        exact ⟨_, X, rfl, (by have q := HROW1.out; rw [h0] at q; exact q), by omega, g1, cur1⟩
      · have hx1 : (0 : Int) < (X.length : Int) := by omega
        go_wp2_with fail
        go_at_call 98
        refine (below_any cur1 X.length (by omega)).mono ?_
        rintro e w2 ⟨i', ⟨q0, q1⟩, rfl, hg2, cur2⟩
        obtain ⟨i, rfl⟩ : ∃ i : Nat, i' = i := ⟨i'.toNat, by omega⟩
        have g2 := only_trans g1 hg2
        have row2 := row3_only HROW1.out hg2 hBw
        have HROW2 := Lib.hid row2
        clear row1 row2
        go_wp2_with fail
        go_at_call 98
        refine (below_any cur2 12 (by omega)).mono ?_
        rintro e w3 ⟨r, ⟨r0, r1⟩, rfl, hg3, cur3⟩
        have g3 := only_trans g2 hg3
        have row3 := row3_only HROW2.out hg3 hBw
        obtain ⟨g, c9, e9, hlo, hhi, hgs, hcc, hcm⟩ := row3.base (n := X.length) rfl (by omega)
        injection e9 with e9 _ e10
        subst e9 e10
        have HROW3 := Lib.hid row3
        have hi3 : i < X.length := by omega
        have i00 : (0 : Int) ≤ (i : Int) := by omega
        clear row3
        have hz3 := g3.size
        by_cases r00 : r = 0
        · subst r00
          have b3 : Below w3.heap.size w3 (w3.alloc (.cells ([0, 2, 99, 100].map (Value.int .i64)).toArray 3)) := (Below.refl _ _).alloc (Nat.le_refl _) _
          have hir := introw_alloc (fun _ => True) w3 [0, 2, 99, 100] 3 (by simp)
          have cur3a := cur3.alloc (.cells ([0, 2, 99, 100].map (Value.int .i64)).toArray 3)
          have hne : w3.heap.size ≠ B := by have := cur3.lt; omega
          have HIR := Lib.hid hir
          have g3a := only_then g3 (b3.mono hz3)
          have HROW3a := Lib.hid (row3_new HROW3.out b3)
          clear hir
          go_wp2_with fail
          go_at_call 101
          refine (int_any (fun _ => True) cur3a _ 4 hne (by omega) (by omega) HIR.out).mono ?_
          rintro e w4 ⟨d, _, rfl, hg4, cur4⟩
          have g4 := only_trans g3a hg4
          have row4 := row3_only HROW3a.out hg4 hBw
          obtain ⟨e0, hc0, hc1, hc2, f0, f1, f2⟩ := row3_at row4 hi3
          have HF := Lib.hid (row4.set (t3s_sets X i hi3 d).1)
          clear row4 b3
          go_wp2_with fail
          go_ret
          have b5 := below_set3 w4 (g := g) (o := i * 3) (x := d) hlo
          refine ⟨_, _, rfl, HF.out.wide (Nat.le_refl _) (by simp [World.setCell]), ?_, only_then g4 b5, cur4.below' b5 hBw⟩
          rw [List.length_set]; omega
        · by_cases r01 : r = 1
          · subst r01
            obtain ⟨e0, hc0, hc1, hc2, f0, f1, f2⟩ := row3_at HROW3.out hi3
            have HF := Lib.hid (HROW3.out.set (t3s_sets X i hi3 X[i].2.2).2.1)
            obtain ⟨x, hx⟩ : ∃ x, x = X[i] := ⟨_, rfl⟩
            rw [← hx] at hc0 hc1 hc2 HF
            clear hx
            go_wp2_with fail
            go_ret
            have b5 := below_set3 w3 (g := g) (o := i * 3 + 1) (x := x.2.2) hlo
            refine ⟨_, _, rfl, HF.out.wide (Nat.le_refl _) (by simp [World.setCell]), ?_, only_then g3 b5, cur3.below' b5 hBw⟩
            rw [List.length_set]; omega
          · by_cases r02 : r = 2
            · subst r02
              have b3 : Below w3.heap.size w3 (w3.alloc (.cells ([-1, 0, 100, 101].map (Value.int .i64)).toArray 3)) := (Below.refl _ _).alloc (Nat.le_refl _) _
              have hir := introw_alloc (fun _ => True) w3 [-1, 0, 100, 101] 3 (by simp)
              have cur3a := cur3.alloc (.cells ([-1, 0, 100, 101].map (Value.int .i64)).toArray 3)
              have hne : w3.heap.size ≠ B := by have := cur3.lt; omega
              have HIR := Lib.hid hir
              have g3a := only_then g3 (b3.mono hz3)
              have HROW3a := Lib.hid (row3_new HROW3.out b3)
              clear hir
              go_wp2_with fail
              go_at_call 101
              refine (int_any (fun _ => True) cur3a _ 4 hne (by omega) (by omega) HIR.out).mono ?_
              rintro e w4 ⟨d, _, rfl, hg4, cur4⟩
              have g4 := only_trans g3a hg4
              have row4 := row3_only HROW3a.out hg4 hBw
              obtain ⟨e0, hc0, hc1, hc2, f0, f1, f2⟩ := row3_at row4 hi3
              have HF := Lib.hid (row4.set (t3s_sets X i hi3 d).2.2)
              clear row4 b3
              go_wp2_with fail
              go_ret
              have b5 := below_set3 w4 (g := g) (o := i * 3 + 2) (x := d) hlo
              refine ⟨_, _, rfl, HF.out.wide (Nat.le_refl _) (by simp [World.setCell]), ?_, only_then g4 b5, cur4.below' b5 hBw⟩
              rw [List.length_set]; omega
            · have q0 : (r == 0) = false := by simpa using r00
              have q1' : (r == 1) = false := by simpa using r01
              have q2 : (r == 2) = false := by simpa using r02
              go_wp2_with fail
              go_ret
              exact ⟨_, X, rfl, HROW3.out, by omega, g3, cur3⟩
/-- Ballots in memory of their own. -/
def GivesB (w : World) (e : Ending) (w' : World) : Prop := ∃ v X, e = .returned v ∧ Row3 w' w.heap.size w'.heap.size 51 v X ∧ X.length ≤ 5 ∧ Below w.heap.size w w'
def GivesBI (w : World) (e : Ending) (w' : World) : Prop := ∃ (v : Value) (X : List T3) (q : Int), e = .returned (.tuple #[v, .int .i64 q]) ∧ Row3 w' w.heap.size w'.heap.size 51 v X ∧ X.length ≤ 5 ∧ Below w.heap.size w w'
theorem drawAre_any {w : World} {A : Option Addr} {n c : Nat} (h : Code8 w A n) : Calls Try.prog 73 #[.slice A n c] w (GivesB w) := by
  go_enter Try.func73, Try.ntmps73
  go_wp2_with fail
  go_at_call 94
  refine (new_any h).mono ?_
  rintro e w1 ⟨rfl, hb1, cur1⟩
  go_wp2_with fail
  go_at_call 95
  refine (l16Any_any cur1).mono ?_
  rintro e w2 ⟨v, X, rfl, hrow, hx, hg, _⟩
  go_wp2_with fail
  go_ret
  exact ⟨v, X, rfl, hrow.wide hb1.size (Nat.le_refl _), hx, cur_below hb1 hg (Nat.le_refl _)⟩
theorem drawDec_any {w : World} {A : Option Addr} {n c : Nat} (h : Code8 w A n) : Calls Try.prog 47 #[.slice A n c] w (GivesB w) := by
  go_enter Try.func47, Try.ntmps47
  go_wp2_with fail
  go_at_call 73
  refine (drawAre_any h).mono ?_
  rintro e w2 ⟨v, X, rfl, hrow, hx, hb⟩
  go_wp2_with fail
  go_ret
  exact ⟨v, X, rfl, hrow, hx, hb⟩
theorem drawVot_any {w : World} {A : Option Addr} {n c : Nat} (h : Code8 w A n) : Calls Try.prog 84 #[.slice A n c] w (GivesBI w) := by
  go_enter Try.func84, Try.ntmps84
  go_wp2_with fail
  go_at_call 94
  refine (new_any h).mono ?_
  rintro e w1 ⟨rfl, hb1, cur1⟩
  go_wp2_with fail
  go_at_call 95
  refine (l16Any_any cur1).mono ?_
  rintro e w2 ⟨v, X, rfl, hrow, hx, hg, cur2⟩
  have hlt := cur1.lt
  obtain ⟨Av, cv, rfl, _, _, _⟩ := hrow.rd (n := X.length) rfl
  go_wp2_with fail
  go_at_call 98
  refine (below_any cur2 4 (by omega)).mono ?_
  rintro e w3 ⟨q, _, rfl, hg3, _⟩
  go_wp2_with fail
  refine bodyPost_ret (v := .tuple #[.slice Av X.length cv, .int .i64 q]) (by simp [results, Try.results84, go_sem]) rfl ?_
  exact ⟨_, X, q, rfl, (row3_only hrow hg3 hlt).wide hb1.size (Nat.le_refl _), hx, cur_below hb1 (only_trans hg hg3) (Nat.le_refl _)⟩
theorem drawSum_any {w : World} {A : Option Addr} {n c : Nat} (h : Code8 w A n) : Calls Try.prog 52 #[.slice A n c] w (GivesBI w) := by
  go_enter Try.func52, Try.ntmps52
  go_wp2_with fail
  go_at_call 84
  refine (drawVot_any h).mono ?_
  rintro e w2 ⟨v, X, q, rfl, hrow, hx, hb⟩
  obtain ⟨Av, cv, rfl, _, _, _⟩ := hrow.rd (n := X.length) rfl
  go_wp2_with fail
  refine bodyPost_ret (v := .tuple #[.slice Av X.length cv, .int .i64 q]) (by simp [results, Try.results52, go_sem]) rfl ?_
  exact ⟨_, X, q, rfl, hrow, hx, hb⟩
end Go.Proofs.Ytngelnkpoojgfaa
