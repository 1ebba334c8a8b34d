/- Contract of slices.Clone. Condition: the slice has at most 2^40 elements. -/
import Derived.Test.YteffhbboeacogaaIntS
import Derived.Test.YteffhbboeacogaaAppend
import Derived.Lib.SliceRun
namespace Go.Proofs.Yteffhbboeacogaa
open Go.ChangeShapes Go.WideShapes Go.ChangeAt Go.RowKit
set_option maxRecDepth 100000
theorem clone_any {w : World} {A : Option Addr} {n c : Nat} {xs : List Int} (hl : Hid (xs.length = n)) (hn : n ≤ 1099511627776) (hr : Rd w w.heap.size A (ivs xs)) :
    Calls Try.prog 57 #[.slice A n c] w (Fresh 3 (ivs xs) w) := by
  obtain ⟨i0, hi, hz0, hz1, hz2⟩ := info_parts IntS_info
  have q22 : ∀ (w : World) (a : Option Addr) (n c n' c' : Nat), (binOp .eql 24 (.slice a n c) (.slice none n' c')).run Try.prog w = .ok (.bool a.isNone) w := fun w a n c n' c' => Lib.run_eql_slice_nil w _ _ a n c n' c' Try.underlying24
  cases A with
  | none =>
    have hx : xs = [] := by
      cases xs with
      | nil => rfl
      | cons x xs =>
        obtain ⟨ad, e, _⟩ := ivs_at hr (k := 0) (by simp)
        cases e
    subst hx
    go_enter Try.func57, Try.ntmps57
    go_wp2
    go_ret
    exact ⟨_, rfl, Row.nil, Below.refl _ _⟩
  | some ad =>
    have hrow0 := Row.made (w := w) w.heap.size #[] 0 3 (Nat.le_refl _) rfl (Nat.zero_le _)
    have hb0 : Below w.heap.size w (w.alloc (Obj.cells #[] 3)) := (Below.refl _ _).alloc (Nat.le_refl _) _
    have hr1 := hr.below hb0
    have L : ([] : List Value).length + n ≤ maxLen ∧ (([] : List Value).length + n) * 8 ≤ 140737488355328 := by unfold maxLen; simp; omega
    have L1 := Lib.hid L
    have HLn := Lib.hid (show (ivs xs).length = n by rw [ivs_len, hl.out])
    clear L
    go_enter Try.func57, Try.ntmps57
    go_wp2_with (at_builtin; refine wpList_app rfl (.tmp 5) (.tmp 6) 24 rfl 3 i0 _ 8 Try.underlying24 hi hz0 hz1 hz2 rfl rfl rfl hrow0 HLn.out hr1 int_one L1.out.1 L1.out.2 (by simp) ?_; intro v1 w1 hrow1 ho1)
    go_ret
    exact ⟨v1, rfl, by simpa using hrow1, hb0.trans (ho1.below (Nat.le_refl _) (by simp))⟩
end Go.Proofs.Yteffhbboeacogaa
