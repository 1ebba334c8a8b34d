/- Contract of the code's Raise (chapter 13). Condition: the points have at most 10^12 elements. -/
import Derived.Test.YtignchefkihdaaaInsC3
import Derived.Test.YtignchefkihdaaaRaiM
namespace Go.Proofs.Ytignchefkihdaaa
open Go.ChangeShapes Go.WideShapes Go.ChangeAt Go.RowKit
set_option maxRecDepth 100000
theorem raiL_len (X : List T3) (k s : Int) : (raiL X k s).length ≤ X.length + 1 := by
  unfold raiL
  split
  · rw [rai_len]; exact Nat.le_refl _
  · omega
def cutL (X R : List T3) : List T3 := if X.length ≤ 1048576 then R else []
theorem cutL_len {X R : List T3} (h : R.length ≤ X.length + 1) : (cutL X R).length ≤ 14000000 := by
  unfold cutL
  split
  · omega
  · simp
theorem cutL_eq {X R : List T3} (h : X.length ≤ 1048576) : cutL X R = R := if_pos h
set_option maxHeartbeats 4000000 in
theorem impRaise_any {w : World} {A : Option Addr} {n c : Nat} {k s : Int} {X : List T3} (hl : Hid (X.length = n)) (hn : n ≤ 900000000000) (hr : Rd w w.heap.size A (t3s X)) :
    Calls Try.prog 31 #[.slice A n c, .int .i64 k, .int .i64 s] w (GivesL w (raiL X k s) (ptB (raiX X k s))) := by
  have HR := Lib.hid hr
  clear hr
  go_enter Try.func31, Try.ntmps31
  go_wp2_with fail
  refine (placeOf_any hl (by omega) HR.out).mono ?_
  rintro e w1 ⟨p, f, rfl, hp, _, b1⟩
  have hpn : p ≤ n := by rw [← hl.out]; exact hp.1
  have HP := Lib.hid hp
  clear hp
  go_wp2_with fail
  refine (cloneP_any hl (by omega) ((HR.out.below b1).more b1.size)).mono ?_
  rintro e w2 ⟨v, rfl, hrow, r⟩
  have b2 := b1.trans (r.mono b1.size)
  have sz2 := b2.size
  have sz1 := b1.size
  obtain ⟨Av, cv, rfl, _, _, _⟩ := hrow.rd hl.out
  obtain ⟨W3, hW3, bx3, b3, hz3⟩ := box3 w2 48 (.int .i64 k) (.int .i64 s) (.int .i64 0)
  have HW3 := Lib.hid hW3
  have HROW := Lib.hid (hrow.new b3)
  have B3 := Lib.hid (b2.trans (b3.mono sz2))
  have hzz : w2.heap.size ≤ W3.heap.size := b3.size
  obtain ⟨V, hV⟩ : ∃ a, w2.heap.size = a := ⟨_, rfl⟩
  rw [hV] at bx3
  have HV := Lib.hid hV
  have hszr := r.size
  clear hW3 hrow r b1 b2 b3 hV
  go_wp2_with fail
  rw [HW3.out, HV.out]
  refine (insert_any (X := X) (x := (k, s, 0)) hl (by omega) hpn HROW.out (by omega) (by rw [← HV.out]; exact Nat.le_refl _) bx3).mono ?_
  rintro e w4 ⟨v4, rfl, hrow4, ho4⟩
  have b4 := B3.out.trans (ho4.below sz1 (by have := HV.out; omega))
  have hINS := ins_B (w := s) HP.out
  have hXX : X.take p ++ [(k, s, 0)] ++ X.drop p = insP X k s p := rfl
  rw [hXX] at hrow4
  have hlen := ins_len X k s p HP.out.1
  obtain ⟨N1, hN1⟩ : ∃ a, (insP X k s p).length = a := ⟨_, rfl⟩
  have hNb : N1 ≤ 900000000001 := by rw [← hN1, hlen, hl.out]; omega
  obtain ⟨A4, c4, rfl, hrd4, _, _⟩ := hrow4.rd (n := N1) hN1
  have HN1 := Lib.hid hN1
  have HROW4 := Lib.hid hrow4
  have HRD4 := Lib.hid hrd4
  have sz4 := b4.size
  have HB4 := Lib.hid b4
  clear hrow4 hrd4 hXX hlen hN1 b4 ho4
  cases hb : ptB (insP X k s p) with
  | false =>
    have HPB := Lib.hid hb
    have hx : ptB (raiX X k s) = false := by rw [← hINS.1]; exact hb
    have HV9 := Lib.hid (show raiL X k s = X ∧ ptB (raiX X k s) = false from ⟨raiL_no hx, hx⟩)
    clear hb hx hINS
    go_wp2_with fail
    refine (impArePoints_any (X := insP X k s p) HN1 (by omega) HRD4.out).mono ?_
    rintro e u ⟨rfl, r⟩
    rw [HPB.out]
    have hbu := HB4.out.trans (r.mono sz4)
    have HRX := Lib.hid ((HR.out.below hbu).more hbu.size)
    have HBU := Lib.hid hbu
    have szu := hbu.size
    clear r hbu
    go_wp2_with fail
    refine (cloneP_any hl (by omega) HRX.out).mono ?_
    rintro e u9 ⟨v9, rfl, hrow9, r9⟩
    obtain ⟨A9, c9, rfl, _, _, _⟩ := hrow9.rd (n := n) hl.out
    go_wp2_with fail
    refine bodyPost_ret (v := .tuple #[.slice A9 n c9, .bool false]) (by simp [results, Try.results31, go_sem]) rfl ?_
    exact ⟨_, by rw [HV9.out.2], by rw [HV9.out.1]; exact hrow9.wide szu (Nat.le_refl _), HBU.out.trans (r9.mono szu)⟩
  | true =>
    have HPB := Lib.hid hb
    have hx : ptB (raiX X k s) = true := by rw [← hINS.1]; exact hb
    have HV9 := Lib.hid (show raiL X k s = insP X k s p ∧ ptB (raiX X k s) = true from ⟨by rw [raiL_yes hx, hINS.2 hb], hx⟩)
    clear hb hx hINS
    go_wp2_with fail
    refine (impArePoints_any (X := insP X k s p) HN1 (by omega) HRD4.out).mono ?_
    rintro e u ⟨rfl, r⟩
    rw [HPB.out]
    have HBU := Lib.hid (HB4.out.trans (r.mono sz4))
    have HRU := Lib.hid ((HROW4.out.new r).wide sz1 r.size)
    clear r
    go_wp2_with fail
    refine bodyPost_ret (v := .tuple #[.slice A4 N1 c4, .bool true]) (by simp [results, Try.results31, go_sem]) rfl ?_
    exact ⟨_, by rw [HV9.out.2], by rw [HV9.out.1]; exact HRU.out, HBU.out⟩
end Go.Proofs.Ytignchefkihdaaa
