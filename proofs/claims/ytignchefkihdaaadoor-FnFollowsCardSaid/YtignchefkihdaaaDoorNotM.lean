/- Contracts of the models NotOf and Join. Condition: the slices have at most 2^40 elements. -/
import Derived.Test.YtignchefkihdaaaDoorMg8
import Derived.Test.YtignchefkihdaaaDoorMg6
namespace Go.Proofs.YtignchefkihdaaaDoor
open Go.ChangeShapes Go.WideShapes Go.ChangeAt Go.RowKit
set_option maxRecDepth 100000
theorem ivs_snocM (zs : List Int) (x : Int) : ivs (zs ++ [x]) = ivs zs ++ [Value.int .i64 x] := by simp [ivs]
theorem ivs_appM (zs ys : List Int) : ivs (zs ++ ys) = ivs zs ++ ivs ys := by simp [ivs]
set_option maxHeartbeats 2000000 in
theorem specNotOf_any {w : World} {A : Option Addr} {n c : Nat} {f : List Int} (hl : Hid (f.length = n)) (hn : n ≤ 1099511627775) (hr : Rd w w.heap.size A (ivs f)) :
    Calls Tryd.prog 26 #[.slice A n c] w (Fresh 3 (ivs (notL f)) w) := by
  obtain ⟨i0, hi, hz0, hz1, hz2⟩ := info_parts IntS_info
  have hrow0 := Row.made (w := w) w.heap.size #[] 0 3 (Nat.le_refl _) rfl (Nat.zero_le _)
  have hb0 := alloc_new w (Obj.cells #[] 3)
  have hr1 := hr.below hb0
  have HLn := Lib.hid (show (ivs f).length = n by rw [ivs_len, hl.out])
  have L1 := Lib.hid (show ([] : List Value).length + n ≤ maxLen ∧ (([] : List Value).length + n) * 8 ≤ 140737488355328 by unfold maxLen; simp; omega)
  have L2 := Lib.hid (show (([] : List Value) ++ ivs f).length + 1 ≤ maxLen ∧ ((([] : List Value) ++ ivs f).length + 1) * 8 ≤ 140737488355328 by rw [List.nil_append, HLn.out]; unfold maxLen; omega)
  have HL9 := Lib.hid (show (f ++ [-1]).length = n + 1 by simp [hl.out])
  go_enter Tryd.func26, Tryd.ntmps26
  go_wp2_with (first
    | (at_builtin; refine wpList_app (news := ivs f) rfl (.tmp 4) (.tmp 5) 25 rfl 3 i0 _ 8 Tryd.underlying25 hi hz0 hz1 hz2 rfl rfl rfl hrow0 HLn.out hr1 int_one L1.out.1 L1.out.2 (by simp) ?_; intro v1 w1 hrow1 ho1; have hm1 := Rd.made w1 #[Value.int .i64 (-1)] 3; have hrow2 := hrow1.new (alloc_new w1 (Obj.cells #[Value.int .i64 (-1)] 3)); have hb1 : Below w.heap.size w w1 := hb0.trans (ho1.below (Nat.le_refl _) (by simp)); have hs1 := hb1.size)
    | (at_builtin; refine wpList_app (news := [.int .i64 (-1)]) rfl (.tmp 6) (.tmp 7) 25 rfl 3 i0 _ 8 Tryd.underlying25 hi hz0 hz1 hz2 rfl rfl rfl hrow2 rfl hm1 (by simp [Value.oneCell']) L2.out.1 L2.out.2 (by simp; omega) ?_; intro v3 w3 hrow3 ho3))
  have hrow4 : Row w3 w.heap.size w3.heap.size 3 v3 (ivs (f ++ [-1])) := by rw [ivs_snocM]; simpa using hrow3
  obtain ⟨A3, c3, rfl, hrd3, _, _⟩ := hrow4.rd (n := n + 1) (by rw [ivs_len, HL9.out])
  have hb3 : Below w.heap.size w w3 := (hb1.alloc (B := w.heap.size) hs1 _).trans (ho3.below (Nat.le_refl _) (by simp; omega))
  refine (specIsFormula_any (f := f ++ [-1]) HL9 (by omega) hrd3).mono ?_
  rintro e w4 ⟨rfl, rfl⟩
  by_cases hf : isF (f ++ [-1]) = true
  · have HN := Lib.hid (show notL f = f ++ [-1] by unfold notL; rw [if_pos hf])
    rw [hf]
    clear hf
    go_wp2_with fail
    go_ret
    exact ⟨_, rfl, by rw [HN.out]; exact hrow4, hb3⟩
  · have hf' : isF (f ++ [-1]) = false := by simpa using hf
    have HN := Lib.hid (show notL f = [] by unfold notL; rw [if_neg hf])
    rw [hf']
    clear hf hf'
    have hrow9 := Row.made (w := w3) w.heap.size #[] 0 3 hb3.size rfl (Nat.zero_le _)
    have hb9 := hb3.alloc (B := w.heap.size) hb3.size (Obj.cells #[] 3)
    go_wp2_with fail
    go_ret
    exact ⟨_, rfl, by rw [HN.out]; exact hrow9.wide (Nat.le_refl _) (by simp), hb9⟩
set_option maxHeartbeats 4000000 in
theorem specJoin_any {w : World} {A A' : Option Addr} {n c n' c' : Nat} {a b : List Int} {x : Int} (hl : Hid (a.length = n)) (hn : n ≤ 109951162777) (hr : Rd w w.heap.size A (ivs a)) (hl' : Hid (b.length = n')) (hn' : n' ≤ 109951162777) (hr' : Rd w w.heap.size A' (ivs b)) :
    Calls Tryd.prog 25 #[.slice A n c, .slice A' n' c', .int .i64 x] w (Fresh 3 (ivs (joinL a b x)) w) := by
  obtain ⟨i0, hi, hz0, hz1, hz2⟩ := info_parts IntS_info
  have hrow0 := Row.made (w := w) w.heap.size #[] 0 3 (Nat.le_refl _) rfl (Nat.zero_le _)
  have hb0 := alloc_new w (Obj.cells #[] 3)
  have hr1 := hr.below hb0
  have HLn := Lib.hid (show (ivs a).length = n by rw [ivs_len, hl.out])
  have HLn' := Lib.hid (show (ivs b).length = n' by rw [ivs_len, hl'.out])
  have L1 := Lib.hid (show ([] : List Value).length + n ≤ maxLen ∧ (([] : List Value).length + n) * 8 ≤ 140737488355328 by unfold maxLen; simp; omega)
  have L2 := Lib.hid (show (([] : List Value) ++ ivs a).length + n' ≤ maxLen ∧ ((([] : List Value) ++ ivs a).length + n') * 8 ≤ 140737488355328 by rw [List.nil_append, HLn.out]; unfold maxLen; omega)
  have L3 := Lib.hid (show ((([] : List Value) ++ ivs a) ++ ivs b).length + 1 ≤ maxLen ∧ (((([] : List Value) ++ ivs a) ++ ivs b).length + 1) * 8 ≤ 140737488355328 by rw [List.nil_append, List.length_append, HLn.out, HLn'.out]; unfold maxLen; omega)
  have HL9 := Lib.hid (show (a ++ b ++ [x]).length = n + n' + 1 by simp only [List.length_append, hl.out, hl'.out, List.length_singleton])
  have HS := Lib.hid hr'
  go_enter Tryd.func25, Tryd.ntmps25
  go_wp2_with (first
    | (at_builtin; refine wpList_app (news := ivs a) rfl (.tmp 8) (.tmp 9) 25 rfl 3 i0 _ 8 Tryd.underlying25 hi hz0 hz1 hz2 rfl rfl rfl hrow0 HLn.out hr1 int_one L1.out.1 L1.out.2 (by simp) ?_; intro v1 w1 hrow1 ho1; have hb1 : Below w.heap.size w w1 := hb0.trans (ho1.below (Nat.le_refl _) (by simp)); have hs1 := hb1.size; have hr2 := HS.out.below hb1)
    | (at_builtin; refine wpList_app (news := ivs b) rfl (.tmp 10) (.tmp 11) 25 rfl 3 i0 _ 8 Tryd.underlying25 hi hz0 hz1 hz2 rfl rfl rfl hrow1 HLn'.out hr2 int_one L2.out.1 L2.out.2 hs1 ?_; intro v2 w2 hrow2 ho2; have hb2 : Below w.heap.size w w2 := hb1.trans (ho2.below (Nat.le_refl _) hs1); have hs2 := hb2.size; have hm1 := Rd.made w2 #[Value.int .i64 x] 3; have hrow2' := hrow2.new (alloc_new w2 (Obj.cells #[Value.int .i64 x] 3)))
    | (at_builtin; refine wpList_app (news := [.int .i64 x]) rfl (.tmp 12) (.tmp 14) 25 rfl 3 i0 _ 8 Tryd.underlying25 hi hz0 hz1 hz2 rfl rfl rfl hrow2' rfl hm1 (by simp [Value.oneCell']) L3.out.1 L3.out.2 (by simp; omega) ?_; intro v3 w3 hrow3 ho3))
  have hrow4 : Row w3 w.heap.size w3.heap.size 3 v3 (ivs (a ++ b ++ [x])) := by rw [ivs_snocM, ivs_appM]; simpa using hrow3
  obtain ⟨A3, c3, rfl, hrd3, _, _⟩ := hrow4.rd (n := n + n' + 1) (by rw [ivs_len, HL9.out])
  have hb3 : Below w.heap.size w w3 := (hb2.alloc (B := w.heap.size) hs2 _).trans (ho3.below (Nat.le_refl _) (by simp; omega))
  have hra := (hr.below hb3).more hb3.size
  have hrb := (HS.out.below hb3).more hb3.size
  have hrow9 := Row.made (w := w3) w.heap.size #[] 0 3 hb3.size rfl (Nat.zero_le _)
  have hb9 := hb3.alloc (B := w.heap.size) hb3.size (Obj.cells #[] 3)
  clear hrow3 hrow1 hrow2 hrow2' hrow0 hm1 hr1 hr2 ho1 ho2 ho3 hb0 hb1 hb2
  refine (specIsFormula_any (f := a) hl (by omega) hra).mono ?_
  rintro e w4 ⟨rfl, rfl⟩
  by_cases ha : isF a = true
  case neg =>
    have HN := Lib.hid (show joinL a b x = [] by unfold joinL; rw [show isF a = false by simpa using ha]; rfl)
    rw [show isF a = false by simpa using ha]
    clear ha
    go_wp2_with fail
    go_ret
    exact ⟨_, rfl, by rw [HN.out]; exact hrow9.wide (Nat.le_refl _) (by simp), hb9⟩
  case pos =>
    rw [ha]
    go_wp2_with fail
    refine (specIsFormula_any (f := b) hl' (by omega) hrb).mono ?_
    rintro e w4 ⟨rfl, rfl⟩
    by_cases hb : isF b = true
    case neg =>
      have HN := Lib.hid (show joinL a b x = [] by unfold joinL; rw [show isF b = false by simpa using hb, Bool.and_false]; rfl)
      rw [show isF b = false by simpa using hb]
      clear ha hb
      go_wp2_with fail
      go_ret
      exact ⟨_, rfl, by rw [HN.out]; exact hrow9.wide (Nat.le_refl _) (by simp), hb9⟩
    case pos =>
      rw [hb]
      by_cases hx : inr x (-4) (-2) = true
      case neg =>
        have HX := Lib.hid (show inr x (-4) (-2) = false by simpa using hx)
        have HN := Lib.hid (show joinL a b x = [] by unfold joinL; rw [HX.out, Bool.and_false]; rfl)
        clear ha hb hx
        go_wp2_with (go_at_call 37; refine (l1In_any _ _ _ _).mono ?_; rintro e w1 ⟨he, rfl⟩; rw [HX.out] at he; subst he)
        go_ret
        exact ⟨_, rfl, by rw [HN.out]; exact hrow9.wide (Nat.le_refl _) (by simp), hb9⟩
      case pos =>
        have HX := Lib.hid hx
        by_cases hf : isF (a ++ b ++ [x]) = true
        · have HN := Lib.hid (show joinL a b x = a ++ b ++ [x] by unfold joinL; rw [ha, hb, hx, hf]; rfl)
          have HF := Lib.hid hf
          clear ha hb hx hf
          go_wp2_with (first | (go_at_call 37; refine (l1In_any _ _ _ _).mono ?_; rintro e w1 ⟨he, rfl⟩; rw [HX.out] at he; subst he) | (go_at_call 36; refine (specIsFormula_any (f := a ++ b ++ [x]) HL9 (by omega) hrd3).mono ?_; rintro e w1 ⟨he, rfl⟩; rw [HF.out] at he; subst he))
          go_ret
          exact ⟨_, rfl, by rw [HN.out]; exact hrow4, hb3⟩
        · have HF := Lib.hid (show isF (a ++ b ++ [x]) = false by simpa using hf)
          have HN := Lib.hid (show joinL a b x = [] by unfold joinL; rw [HF.out, Bool.and_false]; rfl)
          clear ha hb hx hf
          go_wp2_with (first | (go_at_call 37; refine (l1In_any _ _ _ _).mono ?_; rintro e w1 ⟨he, rfl⟩; rw [HX.out] at he; subst he) | (go_at_call 36; refine (specIsFormula_any (f := a ++ b ++ [x]) HL9 (by omega) hrd3).mono ?_; rintro e w1 ⟨he, rfl⟩; rw [HF.out] at he; subst he))
          go_ret
          exact ⟨_, rfl, by rw [HN.out]; exact hrow9.wide (Nat.le_refl _) (by simp), hb9⟩
end Go.Proofs.YtignchefkihdaaaDoor
