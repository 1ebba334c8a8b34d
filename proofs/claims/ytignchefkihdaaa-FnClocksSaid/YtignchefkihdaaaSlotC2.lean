/- Contracts of the code's clock: read, LeftOf, OverBy, TotalUsed. Condition: the slice has at most 2^40 elements. -/
import Derived.Test.YtignchefkihdaaaSlotC
namespace Go.Proofs.Ytignchefkihdaaa
open Go.ChangeShapes Go.WideShapes Go.ChangeAt Go.RowKit
set_option maxRecDepth 100000
def usdN (s : T3) : Int := if slB s then s.2.2 else 0
section
variable {w : World} {a b c n : Int}
theorem readLeft_any : Calls Try.prog 105 #[.agg #[.int .i64 a, .int .i64 b, .int .i64 c], .func (.func 106) #[.agg #[.int .i64 a, .int .i64 b, .int .i64 c]] #[]] w (fun e w' => e = .returned (.int .i64 (lefN (a, b, c))) ∧ Below w.heap.size w w') := by
  obtain ⟨W1, hW, bx, hb1, hz⟩ := box3 w 120 (.int .i64 a) (.int .i64 b) (.int .i64 c)
  have HW := Lib.hid hW
  obtain ⟨c0, c1, c2⟩ := bx.cells3 (Below.refl _ _)
  clear hW
  cases hs : slB (a, b, c) with
  | false =>
    have HS := Lib.hid hs
    have HV := Lib.hid (show lefN (a, b, c) = 0 from lefN_no HS.out)
    clear hs
    go_enter Try.func105, Try.ntmps105
    go_wp2_with fail
    rw [HW.out]
    go_wp2_with fail
    refine (clkRight_any).mono ?_
    rintro e u ⟨he, r⟩
    rw [HS.out] at he
    subst he
    go_wp2_with fail
    go_ret
    exact ⟨ret_i HV.out.symm, hb1.trans (r.mono hb1.size)⟩
  | true =>
    obtain ⟨_, ⟨p1, p2⟩, k1, k2⟩ := sl_parts hs
    simp only at p1 p2 k1 k2
    have HS := Lib.hid hs
    have HV := Lib.hid (show lefN (a, b, c) = mx (b - c) 0 by unfold lefN mx; rw [if_pos HS.out]; split <;> simp only <;> omega)
    clear hs
    go_enter Try.func105, Try.ntmps105
    go_wp2_with fail
    rw [HW.out]
    go_wp2_with fail
    refine (clkRight_any).mono ?_
    rintro e u ⟨he, r⟩
    rw [HS.out] at he
    subst he
    have q := hb1.trans (r.mono hb1.size)
    go_wp2_with fail
    refine (clkLeft_any ⟨by omega, by omega⟩ ⟨by omega, by omega⟩).mono ?_
    rintro e u2 ⟨rfl, r2⟩
    go_wp2_with fail
    go_ret
    exact ⟨ret_i HV.out.symm, q.trans (r2.mono q.size)⟩
theorem readOver_any : Calls Try.prog 105 #[.agg #[.int .i64 a, .int .i64 b, .int .i64 c], .func (.func 107) #[.agg #[.int .i64 a, .int .i64 b, .int .i64 c]] #[]] w (fun e w' => e = .returned (.int .i64 (ovrN (a, b, c))) ∧ Below w.heap.size w w') := by
  obtain ⟨W1, hW, bx, hb1, hz⟩ := box3 w 120 (.int .i64 a) (.int .i64 b) (.int .i64 c)
  have HW := Lib.hid hW
  obtain ⟨c0, c1, c2⟩ := bx.cells3 (Below.refl _ _)
  clear hW
  cases hs : slB (a, b, c) with
  | false =>
    have HS := Lib.hid hs
    have HV := Lib.hid (show ovrN (a, b, c) = 0 from ovrN_no HS.out)
    clear hs
    go_enter Try.func105, Try.ntmps105
    go_wp2_with fail
    rw [HW.out]
    go_wp2_with fail
    refine (clkRight_any).mono ?_
    rintro e u ⟨he, r⟩
    rw [HS.out] at he
    subst he
    go_wp2_with fail
    go_ret
    exact ⟨ret_i HV.out.symm, hb1.trans (r.mono hb1.size)⟩
  | true =>
    obtain ⟨_, ⟨p1, p2⟩, k1, k2⟩ := sl_parts hs
    simp only at p1 p2 k1 k2
    have HS := Lib.hid hs
    have HV := Lib.hid (show ovrN (a, b, c) = mx (c - b) 0 by unfold ovrN mx; rw [if_pos HS.out]; split <;> simp only <;> omega)
    clear hs
    go_enter Try.func105, Try.ntmps105
    go_wp2_with fail
    rw [HW.out]
    go_wp2_with fail
    refine (clkRight_any).mono ?_
    rintro e u ⟨he, r⟩
    rw [HS.out] at he
    subst he
    have q := hb1.trans (r.mono hb1.size)
    go_wp2_with fail
    refine (clkOver_any ⟨by omega, by omega⟩ ⟨by omega, by omega⟩).mono ?_
    rintro e u2 ⟨rfl, r2⟩
    go_wp2_with fail
    go_ret
    exact ⟨ret_i HV.out.symm, q.trans (r2.mono q.size)⟩
theorem readUsed_any : Calls Try.prog 105 #[.agg #[.int .i64 a, .int .i64 b, .int .i64 c], .func (.func 108) #[.agg #[.int .i64 a, .int .i64 b, .int .i64 c]] #[]] w (fun e w' => e = .returned (.int .i64 (usdN (a, b, c))) ∧ Below w.heap.size w w') := by
  obtain ⟨W1, hW, bx, hb1, hz⟩ := box3 w 120 (.int .i64 a) (.int .i64 b) (.int .i64 c)
  have HW := Lib.hid hW
  obtain ⟨c0, c1, c2⟩ := bx.cells3 (Below.refl _ _)
  clear hW
  cases hs : slB (a, b, c) with
  | false =>
    have HS := Lib.hid hs
    have HV := Lib.hid (show usdN (a, b, c) = 0 from by unfold usdN; rw [HS.out]; rfl)
    clear hs
    go_enter Try.func105, Try.ntmps105
    go_wp2_with fail
    rw [HW.out]
    go_wp2_with fail
    refine (clkRight_any).mono ?_
    rintro e u ⟨he, r⟩
    rw [HS.out] at he
    subst he
    go_wp2_with fail
    go_ret
    exact ⟨ret_i HV.out.symm, hb1.trans (r.mono hb1.size)⟩
  | true =>
    obtain ⟨_, ⟨p1, p2⟩, k1, k2⟩ := sl_parts hs
    simp only at p1 p2 k1 k2
    have HS := Lib.hid hs
    have HV := Lib.hid (show usdN (a, b, c) = c by unfold usdN; rw [HS.out]; rfl)
    clear hs
    go_enter Try.func105, Try.ntmps105
    go_wp2_with fail
    rw [HW.out]
    go_wp2_with fail
    refine (clkRight_any).mono ?_
    rintro e u ⟨he, r⟩
    rw [HS.out] at he
    subst he
    have q := hb1.trans (r.mono hb1.size)
    go_wp2_with fail
    refine (clkUsed_any ).mono ?_
    rintro e u2 ⟨rfl, r2⟩
    go_wp2_with fail
    go_ret
    exact ⟨ret_i HV.out.symm, q.trans (r2.mono q.size)⟩
set_option maxHeartbeats 1000000 in
theorem impLeftOf_any : Calls Try.prog 39 #[.agg #[.int .i64 a, .int .i64 b, .int .i64 c]] w (fun e w' => e = .returned (.int .i64 (lefN (a, b, c))) ∧ Below w.heap.size w w') := by
  obtain ⟨W1, hW, bx, hb1, hz⟩ := box3 w 53 (.int .i64 a) (.int .i64 b) (.int .i64 c)
  obtain ⟨W2, hW2, bx2, hb2, hz2⟩ := box3 W1 120 (.int .i64 a) (.int .i64 b) (.int .i64 c)
  have HW := Lib.hid hW
  have HW2 := Lib.hid hW2
  obtain ⟨c0, c1, c2⟩ := bx.cells3 (Below.refl _ _)
  rw [hz] at bx2
  obtain ⟨d0, d1, d2⟩ := bx2.cells3 (Below.refl _ _)
  have q := hb1.trans (hb2.mono hb1.size)
  clear hW hW2 hz hz2
  go_enter Try.func39, Try.ntmps39
  go_wp2_with fail
  rw [HW.out]
  go_wp2_with fail
  rw [HW2.out]
  go_wp2_with fail
  refine (readLeft_any).mono ?_
  rintro e u ⟨rfl, r⟩
  go_wp2_with fail
  go_ret
  exact ⟨rfl, q.trans (r.mono q.size)⟩
set_option maxHeartbeats 1000000 in
theorem impOverBy_any : Calls Try.prog 40 #[.agg #[.int .i64 a, .int .i64 b, .int .i64 c]] w (fun e w' => e = .returned (.int .i64 (ovrN (a, b, c))) ∧ Below w.heap.size w w') := by
  obtain ⟨W1, hW, bx, hb1, hz⟩ := box3 w 53 (.int .i64 a) (.int .i64 b) (.int .i64 c)
  obtain ⟨W2, hW2, bx2, hb2, hz2⟩ := box3 W1 120 (.int .i64 a) (.int .i64 b) (.int .i64 c)
  have HW := Lib.hid hW
  have HW2 := Lib.hid hW2
  obtain ⟨c0, c1, c2⟩ := bx.cells3 (Below.refl _ _)
  rw [hz] at bx2
  obtain ⟨d0, d1, d2⟩ := bx2.cells3 (Below.refl _ _)
  have q := hb1.trans (hb2.mono hb1.size)
  clear hW hW2 hz hz2
  go_enter Try.func40, Try.ntmps40
  go_wp2_with fail
  rw [HW.out]
  go_wp2_with fail
  rw [HW2.out]
  go_wp2_with fail
  refine (readOver_any).mono ?_
  rintro e u ⟨rfl, r⟩
  go_wp2_with fail
  go_ret
  exact ⟨rfl, q.trans (r.mono q.size)⟩
end
end Go.Proofs.Ytignchefkihdaaa
