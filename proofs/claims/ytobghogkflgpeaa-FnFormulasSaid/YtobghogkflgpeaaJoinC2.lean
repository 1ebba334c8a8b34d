/- Contract of the code's Join. Condition: the slices have at most 2^35 elements. -/
import Derived.Test.YtobghogkflgpeaaJoinC
namespace Go.Proofs.Ytobghogkflgpeaa
open Go.ChangeShapes Go.WideShapes Go.ChangeAt Go.RowKit
set_option maxRecDepth 100000
theorem inr_joint (x : Int) : inr x (-4) (-2) = decide (-4 ≤ x ∧ x ≤ -2) := by
  rw [Bool.eq_iff_iff]
  simp [inr]
set_option maxHeartbeats 2000000 in
theorem impJoin_any {w : World} {A A' : Option Addr} {n c n' c' : Nat} {a b : List Int} {x : Int} (hl : Hid (a.length = n)) (hn : n ≤ 34359738368) (hc : n ≤ c) (hcm : c ≤ maxLen) (hr : Rd w w.heap.size A (ivs a)) (hl' : Hid (b.length = n')) (hn' : n' ≤ 34359738368) (hc' : n' ≤ c') (hcm' : c' ≤ maxLen) (hr' : Rd w w.heap.size A' (ivs b)) :
    Calls Try.prog 34 #[.slice A n c, .slice A' n' c', .int .i64 x] w (Fresh 3 (ivs (joinL a b x)) w) := by
  have HR := Lib.hid hr
  have HR' := Lib.hid hr'
  clear hr hr'
  go_enter Try.func34, Try.ntmps34
  go_wp2_with fail
  refine (impIsFormula_any (f := a) hl HR.out).mono ?_
  rintro e w1 ⟨rfl, hb1⟩
  have empt : ∀ (w9 : World), Below w.heap.size w w9 → Row (w9.alloc (Obj.cells #[] 3)) w.heap.size (w9.alloc (Obj.cells #[] 3)).heap.size 3 (.slice (some ⟨w9.heap.size, 0, none⟩) 0 0) (ivs []) ∧ Below w.heap.size w (w9.alloc (Obj.cells #[] 3)) := fun w9 h =>
    ⟨(Row.made (w := w9) w.heap.size #[] 0 3 h.size rfl (Nat.zero_le _)).wide (Nat.le_refl _) (by simp), h.alloc (B := w.heap.size) h.size _⟩
  have HE := Lib.hid empt
  clear empt
  by_cases ha : isF a = true
  case neg =>
    have HA := Lib.hid (show isF a = false by simpa using ha)
    have HN := Lib.hid (show joinL a b x = [] by unfold joinL; rw [HA.out]; rfl)
    rw [HA.out]
    clear ha
    go_wp2_with fail
    go_ret
    exact ⟨_, rfl, by rw [HN.out]; exact (HE.out _ hb1).1, (HE.out _ hb1).2⟩
  case pos =>
    rw [ha]
    go_wp2_with fail
    refine (impIsFormula_any (f := b) hl' ((HR'.out.below hb1).more hb1.size)).mono ?_
    rintro e w2 ⟨rfl, hb2⟩
    have hb3 := hb1.trans (hb2.mono hb1.size)
    by_cases hb : isF b = true
    case neg =>
      have HB := Lib.hid (show isF b = false by simpa using hb)
      have HN := Lib.hid (show joinL a b x = [] by unfold joinL; rw [HB.out, Bool.and_false]; rfl)
      rw [HB.out]
      clear ha hb
      go_wp2_with fail
      go_ret
      exact ⟨_, rfl, by rw [HN.out]; exact (HE.out _ hb3).1, (HE.out _ hb3).2⟩
    case pos =>
      rw [hb]
      by_cases hx : inr x (-4) (-2) = true
      case neg =>
        have HX := Lib.hid (show inr x (-4) (-2) = false by simpa using hx)
        have HJ := Lib.hid ((inr_joint x).symm.trans HX.out)
        have HN := Lib.hid (show joinL a b x = [] by unfold joinL; rw [HX.out, Bool.and_false]; rfl)
        clear ha hb hx
        go_wp2_with (go_at_call 68; refine (isJoint_any _ _).mono ?_; rintro e w9 ⟨he, rfl⟩; rw [HJ.out] at he; subst he)
        go_ret
        exact ⟨_, rfl, by rw [HN.out]; exact (HE.out _ hb3).1, (HE.out _ hb3).2⟩
      case pos =>
        have HJ := Lib.hid ((inr_joint x).symm.trans hx)
        have HN := Lib.hid (show joinL a b x = fmlL (a ++ b ++ [x]) by unfold joinL fmlL; rw [ha, hb, hx]; rfl)
        have b0 := (Bx.made w2 3 #[Value.int .i64 x]).new (alloc_new _ (Obj.cells #[Value.slice A n c, .slice A' n' c', .slice (some ⟨w2.heap.size, 0, none⟩) 1 1] 31))
        have b1 := Bx.made (w2.alloc (Obj.cells #[Value.int .i64 x] 3)) 31 #[Value.slice A n c, .slice A' n' c', .slice (some ⟨w2.heap.size, 0, none⟩) 1 1]
        have hb4 : Below w.heap.size w ((w2.alloc (Obj.cells #[Value.int .i64 x] 3)).alloc (Obj.cells #[Value.slice A n c, .slice A' n' c', .slice (some ⟨w2.heap.size, 0, none⟩) 1 1] 31)) := (hb3.alloc (B := w.heap.size) hb3.size _).alloc (by have := hb3.size; simp; omega) _
        obtain ⟨W1, hW⟩ : ∃ u : World, u = (w2.alloc (Obj.cells #[Value.int .i64 x] 3)).alloc (Obj.cells #[Value.slice A n c, .slice A' n' c', .slice (some ⟨w2.heap.size, 0, none⟩) 1 1] 31) := ⟨_, rfl⟩
        have hs1 : W1.heap.size = w2.heap.size + 2 := by rw [hW]; simp
        rw [← hW] at b0 b1 hb4
        rw [show (w2.alloc (Obj.cells #[Value.int .i64 x] 3)).heap.size = w2.heap.size + 1 by simp] at b1
        have HW := Lib.hid hW.symm
        have HRS := Lib.hid (rdSS_list (B := W1.heap.size) (X := [a, b, [x]]) b1 (by omega) (fun k y hy => by
          match k, hy with
          | 0, hy => injection hy with hy; subst hy; exact ⟨A, c, by rw [hl.out]; rfl, by rw [hl.out]; exact hc, hcm, (HR.out.below hb4).more hb4.size⟩
          | 1, hy => injection hy with hy; subst hy; exact ⟨A', c', by rw [hl'.out]; rfl, by rw [hl'.out]; exact hc', hcm', (HR'.out.below hb4).more hb4.size⟩
          | 2, hy => injection hy with hy; subst hy; exact ⟨_, 1, rfl, Nat.le_refl _, by unfold maxLen; omega, fun j u hu => by
              match j, hu with
              | 0, hu => injection hu with hu; subst hu; exact ⟨_, rfl, by show w2.heap.size < _; omega, by rw [add0]; exact b0.at_ rfl⟩
              | j + 1, hu => simp [ivs] at hu⟩))
        have HP := Lib.hid (show psum [a, b, [x]] [a, b, [x]].length ≤ 137438953472 by simp [psum, hl.out, hl'.out]; omega)
        have HFL := Lib.hid (show ([a, b, [x]] : List (List Int)).flatten = a ++ b ++ [x] by simp)
        clear hW b0 b1 ha hb hx hb1 hb2
        go_wp2_with (go_at_call 68; refine (isJoint_any _ _).mono ?_; rintro e w9 ⟨he, rfl⟩; rw [HJ.out] at he; subst he)
        rw [HW.out]
        refine (formulaOf_any (n := 3) (c := 3) (X := [a, b, [x]]) HFL (Lib.hid rfl) (by omega) HP HRS.out).mono ?_
        rintro e w5 ⟨v, rfl, hrow, hb5⟩
        go_wp2_with fail
        go_ret
        exact ⟨_, rfl, by rw [HN.out]; exact hrow.wide hb4.size (Nat.le_refl _), hb4.trans (hb5.mono hb4.size)⟩
end Go.Proofs.Ytobghogkflgpeaa
