/- Contracts of MayOffer, the model's and the code's (chapter 28), and of the code's isOpenAt. No conditions. -/
import Derived.Test.YtndahdppikcidaaSlotC
import Derived.Test.YtndahdppikcidaaSlotM
import Derived.Test.YtndahdppikcidaaBxK
namespace Go.Proofs.Ytndahdppikcidaa
open Go.ChangeShapes Go.WideShapes Go.ChangeAt Go.RowKit
set_option maxRecDepth 100000
/-- Whether one may ask then. -/
def mayB (s : T3) (at_ : Int) : Bool := slB s && inr at_ 60 (s.2.1 - 60)
theorem alloc_o (w : World) (o : Obj) : Below w.heap.size w (w.alloc o) := (Below.refl _ _).alloc (Nat.le_refl _) _
theorem mayB_no {s : T3} {t : Int} (h : slB s = false) : mayB s t = false := by unfold mayB; rw [h]; rfl
theorem mayB_ok {s : T3} {t : Int} (h : slB s = true) : mayB s t = inr t 60 (s.2.1 - 60) := by unfold mayB; rw [h]; rfl
section
variable {w : World} {a b c t : Int}
set_option maxHeartbeats 1000000 in
theorem specMayOffer_any : Calls Try.prog 52 #[.agg #[.int .i64 a, .int .i64 b, .int .i64 c], .int .i64 t] w (Tells (mayB (a, b, c) t) w) := by
  have bx := Bx.made w 64 #[.int .i64 a, .int .i64 b, .int .i64 c]
  have bA := alloc_o w (Obj.cells #[.int .i64 a, .int .i64 b, .int .i64 c] 64)
  obtain ⟨W1, hW⟩ : ∃ W1, w.alloc (Obj.cells #[Value.int .i64 a, .int .i64 b, .int .i64 c] 64) = W1 := ⟨_, rfl⟩
  rw [hW] at bx bA
  have HW := Lib.hid hW
  have HBX := Lib.hid bx
  have HBA := Lib.hid bA
  obtain ⟨c0, c1, c2⟩ := bx.k3
  clear hW bx bA
  cases q : slB (a, b, c) with
  | false =>
    have HV := Lib.hid (mayB_no (t := t) q)
    have HQ := Lib.hid q
    clear q
    go_enter Try.func52, Try.ntmps52
    go_wp2_with fail
    rw [HW.out]
    try (go_wp2_with fail)
    refine specIsSlot_any.mono ?_
    rintro e w2 ⟨rfl, b2⟩
    rw [HQ.out]
    go_wp2_with fail
    go_ret
    exact ⟨ret_b HV.out.symm, trans_new HBA.out b2⟩
  | true =>
    have HV := Lib.hid (mayB_ok (t := t) q)
    have hp := sl_parts q
    have HQ := Lib.hid q
    have ww := IntWalk.i64_in (b - 60) (by simp at hp; omega)
    clear q
    by_cases h : 60 ≤ t
    · have d1 : decide (60 ≤ t) = true := decide_eq_true h
      have HV2 := Lib.hid (show mayB (a, b, c) t = decide (t ≤ b - 60) by rw [HV.out]; simp [inr, h])
      clear HV hp
      go_enter Try.func52, Try.ntmps52
      go_wp2_with fail
      rw [HW.out]
      try (go_wp2_with fail)
      refine specIsSlot_any.mono ?_
      rintro e w2 ⟨rfl, b2⟩
      rw [HQ.out]
      obtain ⟨d0, d1', d2⟩ := (HBX.out.new b2).k3
      clear c0 c1 c2
      have HB2 := Lib.hid b2
      clear b2
      go_wp2_with fail
      go_ret
      exact ⟨ret_b HV2.out.symm, trans_new HBA.out HB2.out⟩
    · have d1 : decide (60 ≤ t) = false := decide_eq_false h
      have HV2 := Lib.hid (show mayB (a, b, c) t = false by rw [HV.out]; simp [inr, h])
      clear HV hp
      go_enter Try.func52, Try.ntmps52
      go_wp2_with fail
      rw [HW.out]
      try (go_wp2_with fail)
      refine specIsSlot_any.mono ?_
      rintro e w2 ⟨rfl, b2⟩
      rw [HQ.out]
      obtain ⟨d0, d1', d2⟩ := (HBX.out.new b2).k3
      clear c0 c1 c2
      have HB2 := Lib.hid b2
      clear b2
      go_wp2_with fail
      go_ret
      exact ⟨ret_b HV2.out.symm, trans_new HBA.out HB2.out⟩
set_option maxHeartbeats 1000000 in
theorem isOpenAt_any {v : Value} {A : Option Addr} {n d : Nat} (hv : v = .slice A n d) : Calls Try.prog 89 #[.agg #[.int .i64 a, .int .i64 b, .int .i64 c, v], .int .i64 t] w (Tells (mayB (a, b, c) t) w) := by
  subst hv
  have bx := Bx.made w 101 #[.int .i64 a, .int .i64 b, .int .i64 c, .slice A n d]
  have bA := alloc_o w (Obj.cells #[.int .i64 a, .int .i64 b, .int .i64 c, .slice A n d] 101)
  obtain ⟨W1, hW⟩ : ∃ W1, w.alloc (Obj.cells #[Value.int .i64 a, .int .i64 b, .int .i64 c, .slice A n d] 101) = W1 := ⟨_, rfl⟩
  rw [hW] at bx bA
  have HW := Lib.hid hW
  have HBX := Lib.hid bx
  have HBA := Lib.hid bA
  obtain ⟨c0, c1, c2, c3⟩ := bx.k4
  clear hW bx bA
  cases q : slB (a, b, c) with
  | false =>
    have HV := Lib.hid (mayB_no (t := t) q)
    have HQ := Lib.hid q
    clear q
    go_enter Try.func89, Try.ntmps89
    go_wp2_with fail
    rw [HW.out]
    try (go_wp2_with fail)
    refine clkRight_any.mono ?_
    rintro e w2 ⟨rfl, b2⟩
    rw [HQ.out]
    go_wp2_with fail
    go_ret
    exact ⟨ret_b HV.out.symm, trans_new HBA.out b2⟩
  | true =>
    have HV := Lib.hid (mayB_ok (t := t) q)
    have hp := sl_parts q
    have HQ := Lib.hid q
    have ww := IntWalk.i64_in (b - 60) (by simp at hp; omega)
    clear q hp
    go_enter Try.func89, Try.ntmps89
    go_wp2_with fail
    rw [HW.out]
    try (go_wp2_with fail)
    refine clkRight_any.mono ?_
    rintro e w2 ⟨rfl, b2⟩
    rw [HQ.out]
    obtain ⟨d0, d1, d2, d3⟩ := (HBX.out.new b2).k4
    clear c0 c1 c2 c3
    have HB2 := Lib.hid b2
    clear b2
    go_wp2_with fail
    refine (inRange_any _ _ _ _).mono ?_
    rintro e u ⟨rfl, rfl⟩
    go_wp2_with fail
    go_ret
    exact ⟨ret_b HV.out.symm, trans_new HBA.out HB2.out⟩
set_option maxHeartbeats 1000000 in
theorem impMayOffer_any : Calls Try.prog 53 #[.agg #[.int .i64 a, .int .i64 b, .int .i64 c], .int .i64 t] w (Tells (mayB (a, b, c) t) w) := by
  have bx := Bx.made w 64 #[.int .i64 a, .int .i64 b, .int .i64 c]
  have bA := alloc_o w (Obj.cells #[.int .i64 a, .int .i64 b, .int .i64 c] 64)
  obtain ⟨W1, hW⟩ : ∃ W1, w.alloc (Obj.cells #[Value.int .i64 a, .int .i64 b, .int .i64 c] 64) = W1 := ⟨_, rfl⟩
  rw [hW] at bx bA
  have HW := Lib.hid hW
  have HBA := Lib.hid bA
  obtain ⟨c0, c1, c2⟩ := bx.k3
  clear hW bx bA
  go_enter Try.func53, Try.ntmps53
  go_wp2_with fail
  rw [HW.out]
  try (go_wp2_with fail)
  refine (isOpenAt_any rfl).mono ?_
  rintro e w2 ⟨rfl, b2⟩
  go_wp2_with fail
  go_ret
  exact ⟨rfl, trans_new HBA.out b2⟩
end
end Go.Proofs.Ytndahdppikcidaa
