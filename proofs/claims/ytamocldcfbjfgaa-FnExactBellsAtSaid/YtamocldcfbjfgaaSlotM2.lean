/- Contracts of the models of chapter 14: Speak, LeftOf, OverBy, BellsAt. No conditions. -/
import Derived.Test.YtamocldcfbjfgaaSlotM
import Derived.Test.YtamocldcfbjfgaaGraph
import Derived.Test.YtamocldcfbjfgaaGrow
namespace Go.Proofs.Ytamocldcfbjfgaa
open Go.ChangeShapes Go.WideShapes Go.ChangeAt Go.RowKit
set_option maxRecDepth 100000
theorem Bx.cells3 {w w' : World} {g : Nat} {t : TypeId} {a b c : Value} (h : Bx w g t #[a, b, c]) (hb : Below w.heap.size w w') : w'.cell? ⟨g, 0, none⟩ = some a ∧ w'.cell? ⟨g, 1, none⟩ = some b ∧ w'.cell? ⟨g, 2, none⟩ = some c := by
  have k := h.new hb
  refine ⟨?_, ?_, ?_⟩ <;> (rw [cell_of_row _ _ _ _ _ _ k]; rfl)
/-- A struct's box, made: the world, the block, what lies below. -/
theorem box3 (w : World) (t : TypeId) (a b c : Value) : ∃ W1 : World, w.alloc (Obj.cells #[a, b, c] t) = W1 ∧ Bx W1 w.heap.size t #[a, b, c] ∧ Below w.heap.size w W1 ∧ W1.heap.size = w.heap.size + 1 :=
  ⟨_, rfl, Bx.made _ _ _, alloc_new _ _, by simp⟩
theorem lefN_no {s : T3} (h : slB s = false) : lefN s = 0 := by unfold lefN; rw [h]; rfl
theorem ovrN_no {s : T3} (h : slB s = false) : ovrN s = 0 := by unfold ovrN; rw [h]; rfl
theorem belL_no {s : T3} (h : slB s = false) : belL s = [] := by unfold belL; rw [h]; rfl
section
variable {w : World} {a b c : Int}
theorem specLeftOf_any : Calls Try.prog 21 #[.agg #[.int .i64 a, .int .i64 b, .int .i64 c]] w (fun e w' => e = .returned (.int .i64 (lefN (a, b, c))) ∧ Below w.heap.size w w') := by
  obtain ⟨W1, hW, bx, hb, hz⟩ := box3 w 25 (.int .i64 a) (.int .i64 b) (.int .i64 c)
  have HW := Lib.hid hW
  obtain ⟨c0, c1, c2⟩ := bx.cells3 (Below.refl _ _)
  clear hW
  go_enter Try.func21, Try.ntmps21
  go_wp2_with fail
  rw [HW.out]
  go_wp2_with fail
  refine (specIsSlot_any).mono ?_
  rintro e u ⟨he, r⟩
  have q := hb.trans (r.mono hb.size)
  obtain ⟨d0, d1, d2⟩ := bx.cells3 r
  cases hs : slB (a, b, c) with
  | false =>
    rw [hs] at he
    subst he
    have HV := Lib.hid (lefN_no hs)
    clear hs
    go_wp2_with fail
    go_ret
    exact ⟨ret_i HV.out.symm, q⟩
  | true =>
    rw [hs] at he
    subst he
    obtain ⟨_, ⟨b1, b2⟩, k1, k2⟩ := sl_parts hs
    simp only at b1 b2 k1 k2
    have HV := Lib.hid (show lefN (a, b, c) = mx 0 (b - c) by unfold lefN mx; rw [if_pos hs]; split <;> simp only <;> omega)
    clear hs
    go_wp2_with fail
    refine (smax_any 0 (b - c) _).mono ?_
    rintro e u2 ⟨rfl, rfl⟩
    rw [← HV.out]
    go_wp2_with fail
    go_ret
    exact ⟨rfl, q⟩
theorem specOverBy_any : Calls Try.prog 23 #[.agg #[.int .i64 a, .int .i64 b, .int .i64 c]] w (fun e w' => e = .returned (.int .i64 (ovrN (a, b, c))) ∧ Below w.heap.size w w') := by
  obtain ⟨W1, hW, bx, hb, hz⟩ := box3 w 25 (.int .i64 a) (.int .i64 b) (.int .i64 c)
  have HW := Lib.hid hW
  obtain ⟨c0, c1, c2⟩ := bx.cells3 (Below.refl _ _)
  clear hW
  go_enter Try.func23, Try.ntmps23
  go_wp2_with fail
  rw [HW.out]
  go_wp2_with fail
  refine (specIsSlot_any).mono ?_
  rintro e u ⟨he, r⟩
  have q := hb.trans (r.mono hb.size)
  obtain ⟨d0, d1, d2⟩ := bx.cells3 r
  cases hs : slB (a, b, c) with
  | false =>
    rw [hs] at he
    subst he
    have HV := Lib.hid (ovrN_no hs)
    clear hs
    go_wp2_with fail
    go_ret
    exact ⟨ret_i HV.out.symm, q⟩
  | true =>
    rw [hs] at he
    subst he
    obtain ⟨_, ⟨b1, b2⟩, k1, k2⟩ := sl_parts hs
    simp only at b1 b2 k1 k2
    have HV := Lib.hid (show ovrN (a, b, c) = mx 0 (c - b) by unfold ovrN mx; rw [if_pos hs]; split <;> simp only <;> omega)
    clear hs
    go_wp2_with fail
    refine (smax_any 0 (c - b) _).mono ?_
    rintro e u2 ⟨rfl, rfl⟩
    rw [← HV.out]
    go_wp2_with fail
    go_ret
    exact ⟨rfl, q⟩
theorem bel_yes {s : T3} (h : slB s = true) (hl : 120 < s.2.1) : belL s = [60, s.2.1 - 60, s.2.1, s.2.1 + 15] := by unfold belL; rw [if_pos h, if_pos hl]; rfl
theorem bel_low {s : T3} (h : slB s = true) (hl : ¬ 120 < s.2.1) : belL s = [s.2.1, s.2.1 + 15] := by unfold belL; rw [if_pos h, if_neg hl]; rfl
set_option maxHeartbeats 2000000 in
theorem specBellsAt_any : Calls Try.prog 25 #[.agg #[.int .i64 a, .int .i64 b, .int .i64 c]] w (Fresh 3 (ivs (belL (a, b, c))) w) := by
  obtain ⟨i0, hi, hz0, hz1, hz2⟩ := info_parts IntS_info
  obtain ⟨W1, hW, bx, hb, hz⟩ := box3 w 25 (.int .i64 a) (.int .i64 b) (.int .i64 c)
  have HW := Lib.hid hW
  obtain ⟨c0, c1, c2⟩ := bx.cells3 (Below.refl _ _)
  clear hW
  go_enter Try.func25, Try.ntmps25
  go_wp2_with fail
  rw [HW.out]
  go_wp2_with fail
  refine (specIsSlot_any).mono ?_
  rintro e u ⟨he, r⟩
  have q := hb.trans (r.mono hb.size)
  have hqs := q.size
  have hrow0 := Row.made (w := u) u.heap.size #[] 0 3 (Nat.le_refl _) rfl (Nat.zero_le _)
  have k0 := alloc_new u (Obj.cells #[] 3)
  obtain ⟨d0, d1, d2⟩ := bx.cells3 (r.trans (k0.mono r.size))
  cases hs : slB (a, b, c) with
  | false =>
    rw [hs] at he
    subst he
    have HV := Lib.hid (belL_no hs)
    clear hs
    go_wp2_with fail
    go_ret
    exact ⟨_, rfl, by rw [HV.out]; exact hrow0.wide (by omega) (by simp), q.trans (k0.mono q.size)⟩
  | true =>
    rw [hs] at he
    subst he
    obtain ⟨_, ⟨b1, b2⟩, _⟩ := sl_parts hs
    simp only at b1 b2
    by_cases hl : 120 < b
    · have HV := Lib.hid (bel_yes hs hl)
      have hgt : (60 : Int) < b - 60 := by omega
      have k1 := alloc_new (u.alloc (Obj.cells #[] 3)) (Obj.cells #[Value.int .i64 60, Value.int .i64 (b - 60)] 3)
      have HROW := Lib.hid (hrow0.new k1)
      have hm1 := Rd.made (u.alloc (Obj.cells #[] 3)) #[Value.int .i64 60, Value.int .i64 (b - 60)] 3
      rw [show (u.alloc (Obj.cells #[] 3)).heap.size = u.heap.size + 1 by simp] at hm1
      have HM := Lib.hid hm1
      have k01 : Below u.heap.size u ((u.alloc (Obj.cells #[] 3)).alloc (Obj.cells #[Value.int .i64 60, Value.int .i64 (b - 60)] 3)) := k0.trans (k1.mono (by simp))
      clear hs hrow0 hm1 k1
      go_wp2_with (first
        | (at_builtin; refine wpList_app (news := [.int .i64 60, .int .i64 (b - 60)]) (m := 2) rfl (.tmp 13) (.tmp 17) 33 rfl 3 i0 _ 8 Try.underlying33 hi hz0 hz1 hz2 rfl rfl rfl HROW.out rfl HM.out (by simp [Value.oneCell']) (by simp [maxLen]) (by simp) (by simp; omega) ?_; intro v1 w3 hrow1 ho1; obtain ⟨A3, c3, rfl, _, _, _⟩ := hrow1.rd (n := 2) rfl; have r3 : Below u.heap.size u w3 := k01.trans (ho1.below (Nat.le_refl _) (by simp; omega)); have hz3 := r3.size; obtain ⟨f0, f1, f2⟩ := bx.cells3 (r.trans (r3.mono r.size)); have k3 := alloc_new w3 (Obj.cells #[Value.int .i64 b, Value.int .i64 (b + 15)] 3); have HROW3 := Lib.hid (hrow1.new k3); have HM3 := Lib.hid (Rd.made w3 #[Value.int .i64 b, Value.int .i64 (b + 15)] 3))
        | (at_builtin; refine wpList_app (news := [.int .i64 b, .int .i64 (b + 15)]) (m := 2) rfl (.tmp 19) (.tmp 25) 33 rfl 3 i0 _ 8 Try.underlying33 hi hz0 hz1 hz2 rfl rfl rfl HROW3.out rfl HM3.out (by simp [Value.oneCell']) (by simp [maxLen]) (by simp) (by simp; omega) ?_; intro v4 w4 hrow4 ho4))
      go_ret
      have q3 := q.trans (r3.mono q.size)
      refine ⟨_, rfl, ?_, (q3.trans (k3.mono q3.size)).trans (ho4.below (by omega) (by simp; omega))⟩
      rw [HV.out]
      exact hrow4.wide (by omega) (Nat.le_refl _)
    · have HV := Lib.hid (bel_low hs hl)
      have hgt : ¬ (60 : Int) < b - 60 := by omega
      have k1 := alloc_new (u.alloc (Obj.cells #[] 3)) (Obj.cells #[Value.int .i64 b, Value.int .i64 (b + 15)] 3)
      have HROW := Lib.hid (hrow0.new k1)
      have hm1 := Rd.made (u.alloc (Obj.cells #[] 3)) #[Value.int .i64 b, Value.int .i64 (b + 15)] 3
      rw [show (u.alloc (Obj.cells #[] 3)).heap.size = u.heap.size + 1 by simp] at hm1
      have HM := Lib.hid hm1
      have k01 : Below u.heap.size u ((u.alloc (Obj.cells #[] 3)).alloc (Obj.cells #[Value.int .i64 b, Value.int .i64 (b + 15)] 3)) := k0.trans (k1.mono (by simp))
      clear hs hrow0 hm1 k1
      go_wp2_with (at_builtin; refine wpList_app (news := [.int .i64 b, .int .i64 (b + 15)]) (m := 2) rfl (.tmp 19) (.tmp 25) 33 rfl 3 i0 _ 8 Try.underlying33 hi hz0 hz1 hz2 rfl rfl rfl HROW.out rfl HM.out (by simp [Value.oneCell']) (by simp [maxLen]) (by simp) (by simp; omega) ?_; intro v4 w4 hrow4 ho4)
      go_ret
      have q3 := q.trans (k01.mono q.size)
      refine ⟨_, rfl, ?_, q3.trans (ho4.below (by omega) (by simp; omega))⟩
      rw [HV.out]
      exact hrow4.wide (by omega) (Nat.le_refl _)
end
end Go.Proofs.Ytamocldcfbjfgaa
