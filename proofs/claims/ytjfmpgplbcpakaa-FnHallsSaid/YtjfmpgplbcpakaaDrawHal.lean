/- The draws of chapter 18: l18Any gives at most eleven hearers in memory of its own. -/
import Derived.Test.YtjfmpgplbcpakaaDrawS
import Derived.Test.YtjfmpgplbcpakaaHearB
import Derived.Test.YtjfmpgplbcpakaaSet2
import Derived.Test.YtjfmpgplbcpakaaDraw3
namespace Go.Proofs.Ytjfmpgplbcpakaa
open Go.ChangeShapes Go.WideShapes Go.ChangeAt Go.RowKit
set_option maxRecDepth 100000
theorem row2_only {w w' : World} {lo B : Nat} {t : TypeId} {v : Value} {X : List T2} (h : Row2 w lo w.heap.size t v X) (g : w.grownBy w' (some B)) (hB : B < lo) : Row2 w' lo w'.heap.size t v X :=
  (h.out (Out.of_only g) (.inr (by omega))).wide (Nat.le_refl _) g.size
theorem row2_new {w w' : World} {lo : Nat} {t : TypeId} {v : Value} {X : List T2} (h : Row2 w lo w.heap.size t v X) (b : Below w.heap.size w w') : Row2 w' lo w'.heap.size t v X :=
  (h.new b).wide (Nat.le_refl _) b.size
theorem row2_at {w : World} {lo hi g n c k : Nat} {t : TypeId} {X : List T2} (h : Row2 w lo hi t (.slice (some ⟨g, 0, none⟩) n c) X) (hk : k < X.length) :
    (⟨g, 0, none⟩ : Addr).add (k * 2) = ⟨g, k * 2, none⟩ ∧ w.cell? ⟨g, k * 2, none⟩ = some (.int .i64 X[k].1) ∧ w.cell? ⟨g, k * 2 + 1, none⟩ = some (.int .i64 X[k].2) ∧ w.frozen? ⟨g, k * 2, none⟩ = false ∧ w.frozen? ⟨g, k * 2 + 1, none⟩ = false := by
  have e : (⟨g, 0, none⟩ : Addr).add (k * 2) = ⟨g, k * 2, none⟩ := by rw [Addr.add_lit]; simp
  obtain ⟨ad, p, e1, e2, _, h0, h1⟩ := t2_cells h.rd' hk
  injection e1 with e1
  subst e1
  rw [e] at e2
  subst e2
  exact ⟨e, h0, h1, h.froz, h.froz⟩
/-- Hearers were drawn into a new row. -/
def DrawnH (B : Nat) (A : Option Addr) (n c : Nat) (w : World) (e : Ending) (w' : World) : Prop :=
  ∃ v X, e = .returned v ∧ Row2 w' w.heap.size w'.heap.size 40 v X ∧ X.length ≤ 11 ∧ w.grownBy w' (some B) ∧ Cur w' B A n c
set_option maxHeartbeats 8000000 in
theorem l18Any_any {w : World} {B n c : Nat} {A : Option Addr} (h : Cur w B A n c) : Calls Try.prog 27 #[.pointer (some ⟨B, 0, none⟩)] w (DrawnH B A n c w) := by
  have hBw := h.lt
  have hb0 : Below w.heap.size w (w.alloc (Obj.cells #[] 40)) := (Below.refl _ _).alloc (Nat.le_refl _) _
  have hrow0 : Row2 (w.alloc (Obj.cells #[] 40)) w.heap.size (w.alloc (Obj.cells #[] 40)).heap.size 40 (.slice (some ⟨w.heap.size, 0, none⟩) 0 0) [] := (Row2.made (w := w) w.heap.size #[] 0 (Nat.le_refl _) rfl rfl (Nat.zero_le _)).wide (Nat.le_refl _) (by simp)
  have cur0 := h.alloc (Obj.cells #[] 40)
  have g0 := only_new hb0 (some B)
  obtain ⟨i0, hi, ii0, ii1, ii2⟩ := info_parts HearerS_info
  have HROW0 := Lib.hid hrow0
  have G0 := Lib.hid g0
  clear hrow0 g0 hb0
  go_enter Try.func27, Try.ntmps27
  go_wp2_with fail
  go_at_call 28
  refine (below_any cur0 12 (by omega)).mono ?_
  rintro e wa ⟨p, ⟨p0, p1⟩, rfl, hga, cura⟩
  have HROWA := Lib.hid (row2_only HROW0.out hga hBw)
  have GA := Lib.hid (only_trans G0.out hga)
  clear hga cur0
  go_wp2_with fail
  go_loopw [3, 4] (fun s i wr => ∃ (k : Int) (X : List T2), 0 ≤ k ∧ k ≤ 11 ∧ i = .int .i64 k ∧ Row2 wr w.heap.size wr.heap.size 40 s X ∧ (X.length : Int) + k ≤ 11 ∧ w.grownBy wr (some B) ∧ Cur wr B A n c) (fun _ i _ => (intOf i).toNat)
  case atStart => exact ⟨p, [], by omega, by omega, rfl, HROWA.out, by simp; omega, GA.out, cura⟩
  case round =>
    obtain ⟨k, X, hk0, hk11, rfl, hrow, hxl, hg, hcur⟩ := hrel
    by_cases hkp : 0 < k
    · have HROW := Lib.hid hrow
      have HG := Lib.hid hg
      have ww1 := IntWalk.i64_in (k - 1) (by omega)
      clear hrow hg cura
      go_wp2_with fail
      go_at_call 28
      refine (below_any hcur 3 (by omega)).mono ?_
      rintro e w1 ⟨x, ⟨x0, x1⟩, rfl, hg1, cur1⟩
      have HROW1 := Lib.hid (row2_only HROW.out hg1 hBw)
      have G1 := Lib.hid (only_trans HG.out hg1)
      clear hg1 hcur
      go_wp2_with fail
      go_at_call 28
      refine (below_any cur1 3 (by omega)).mono ?_
      rintro e w3 ⟨y, ⟨y0, y1⟩, rfl, hg3, cur3⟩
      have row3 := row2_only HROW1.out hg3 hBw
      have g3 := only_trans G1.out hg3
      have hz3 := g3.size
      have b3 : Below w3.heap.size w3 (w3.alloc (Obj.cells #[.int .i64 x, .int .i64 y] 40)) := (Below.refl _ _).alloc (Nat.le_refl _) _
      have HMADE := Lib.hid (show Rd _ _ _ (t2s [(x, y)]) from Rd.made w3 #[.int .i64 x, .int .i64 y] 40)
      have HROW3 := Lib.hid (row2_new row3 b3)
      have HCUR3 := Lib.hid (cur3.below b3)
      have G3 := Lib.hid (only_then g3 (b3.mono hz3))
      clear row3 cur3 g3 b3 hg3 cur1
      go_wp2_with (at_builtin; (refine wpList_app2s (m := 1) (Y := [(x, y)]) rfl (.tmp 12) (.tmp 18) 24 rfl 40 i0 _ 16 Try.underlying24 hi ii0 ii1 ii2 rfl rfl rfl HROW3.out rfl HMADE.out (by unfold maxLen; omega) (by omega) (by simp; omega) ?_; intro v9 w9 hrow9 ho9))
      have hb9 : Below w.heap.size (w3.alloc (Obj.cells #[.int .i64 x, .int .i64 y] 40)) w9 := ho9.below (Nat.le_refl _) (by simp; omega)
      go_roundw
      case rel => exact ⟨k - 1, X ++ [(x, y)], by omega, by omega, by go_num, hrow9, by simp; omega, only_then G3.out hb9, HCUR3.out.below' hb9 hBw⟩
      case measure => simp [intOf]; omega
    · have hk : k = 0 := by omega
      subst hk
      obtain ⟨Av, cv, rfl, _, _, _⟩ := hrow.rd (n := X.length) rfl
      by_cases h0 : X.length = 0
      · have hx1 : ¬ (0 : Int) < (X.length : Int) := by omega
        go_wp2_with fail
        go_ret
        exact ⟨_, X, rfl, (by have q := hrow; rw [h0] at q; exact q), by omega, hg, hcur⟩
      · have hx1 : (0 : Int) < (X.length : Int) := by omega
        have HROW := Lib.hid hrow
        have HG := Lib.hid hg
        clear hrow hg
        go_wp2_with fail
        go_at_call 29
        refine (once_any hcur 9 (by omega)).mono ?_
        rintro e w2 ⟨bb, rfl, hg2, cur2⟩
        have g2 := only_trans HG.out hg2
        have row2 := row2_only HROW.out hg2 hBw
        cases bb with
        | false =>
          have HROW2 := Lib.hid row2
          have G2 := Lib.hid g2
          clear row2 g2
          go_wp2_with fail
          go_ret
          exact ⟨_, X, rfl, HROW2.out, by omega, G2.out, cur2⟩
        | true =>
          obtain ⟨g, c9, e9, hlo, hhi, hgs, hcc, hcm⟩ := row2.base (n := X.length) rfl (by omega)
          injection e9 with e9 _ e10
          subst e9 e10
          have hz2 := g2.size
          have b3 : Below w2.heap.size w2 (w2.alloc (.cells ([-1, 3].map (Value.int .i64)).toArray 3)) := (Below.refl _ _).alloc (Nat.le_refl _) _
          have hir := introw_alloc (fun _ => True) w2 [-1, 3] 3 (by simp)
          have cur3a := cur2.alloc (.cells ([-1, 3].map (Value.int .i64)).toArray 3)
          have hne : w2.heap.size ≠ B := by have := cur2.lt; omega
          have HIR := Lib.hid hir
          have g3a := only_then g2 (b3.mono hz2)
          have HROW3a := Lib.hid (row2_new row2 b3)
          clear hir row2
          go_wp2_with fail
          go_at_call 30
          refine (int_any (fun _ => True) cur3a _ 2 hne (by omega) (by omega) HIR.out).mono ?_
          rintro e w4 ⟨d, _, rfl, hg4, cur4⟩
          have g4 := only_trans g3a hg4
          have row4 := row2_only HROW3a.out hg4 hBw
          have hx0 : 0 < X.length := by omega
          obtain ⟨e0, hc0, hc1, f0, f1⟩ := row2_at row4 hx0
          have HF := Lib.hid (row4.set (t2s_sets X 0 hx0 d).2)
          simp only [Nat.zero_mul, Nat.zero_add] at hc0 hc1 f0 f1 e0 HF
          clear row4 b3
          go_wp2_with fail
          go_ret
          have b5 := below_set3 w4 (g := g) (o := 1) (x := d) hlo
          refine ⟨_, _, rfl, HF.out.wide (Nat.le_refl _) (by simp [World.setCell]), ?_, only_then g4 b5, cur4.below' b5 hBw⟩
          rw [List.length_set]; omega
/-- Hearers in memory of their own. -/
def GivesH (w : World) (e : Ending) (w' : World) : Prop := ∃ v X, e = .returned v ∧ Row2 w' w.heap.size w'.heap.size 40 v X ∧ X.length ≤ 11 ∧ Below w.heap.size w w'
theorem drawHear_any {w : World} {A : Option Addr} {n c : Nat} (h : Code8 w A n) : Calls Try.prog 12 #[.slice A n c] w (GivesH w) := by
  go_enter Try.func12, Try.ntmps12
  go_wp2_with fail
  go_at_call 26
  refine (new_any h).mono ?_
  rintro e w1 ⟨rfl, hb1, cur1⟩
  go_wp2_with fail
  go_at_call 27
  refine (l18Any_any cur1).mono ?_
  rintro e w2 ⟨v, X, rfl, hrow, hx, hg, _⟩
  go_wp2_with fail
  go_ret
  exact ⟨v, X, rfl, hrow.wide hb1.size (Nat.le_refl _), hx, cur_below hb1 hg (Nat.le_refl _)⟩
theorem drawHall_any {w : World} {A : Option Addr} {n c : Nat} (h : Code8 w A n) : Calls Try.prog 5 #[.slice A n c] w (GivesH w) := by
  go_enter Try.func5, Try.ntmps5
  go_wp2_with fail
  go_at_call 12
  refine (drawHear_any h).mono ?_
  rintro e w2 ⟨v, X, rfl, hrow, hx, hb⟩
  go_wp2_with fail
  go_ret
  exact ⟨v, X, rfl, hrow, hx, hb⟩
end Go.Proofs.Ytjfmpgplbcpakaa
