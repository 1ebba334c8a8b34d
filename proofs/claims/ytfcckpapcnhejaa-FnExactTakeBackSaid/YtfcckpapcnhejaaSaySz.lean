/- Sizes of what the functions of chapter 12 return. Conditions: the sizes of what came in. -/
import Derived.Test.YtfcckpapcnhejaaMg1
import Derived.Test.YtfcckpapcnhejaaIntSS
namespace Go.Proofs.Ytfcckpapcnhejaa
open Go.ChangeShapes Go.WideShapes Go.ChangeAt Go.RowKit
theorem psum_all (X : List (List Int)) : psum X X.length = (X.map List.length).sum := by unfold psum; rw [List.take_length]
theorem sum_sub {X Y : List (List Int)} (h : List.Sublist Y X) : (Y.map List.length).sum ≤ (X.map List.length).sum := by
  induction h with
  | slnil => exact Nat.le_refl _
  | cons a h ih => rw [List.map_cons, List.sum_cons]; omega
  | cons_cons a h ih => rw [List.map_cons, List.map_cons, List.sum_cons, List.sum_cons]; omega
theorem sub_sizes {X Y : List (List Int)} (h : List.Sublist Y X) (h1 : X.length ≤ 3000000) (h2 : psum X X.length ≤ 3000000) : Y.length ≤ 140000000 ∧ (∀ x ∈ Y, x.length ≤ 1099511627776) ∧ psum Y Y.length ≤ 140000000 := by
  have hl := h.length_le
  have hs := sum_sub h
  rw [psum_all] at h2
  refine ⟨by omega, fun x hx => ?_, by rw [psum_all]; omega⟩
  have := psum_mem Y x hx
  rw [psum_all] at this
  omega
theorem say_sizes {X : List (List Int)} {f : List Int} (h1 : X.length ≤ 1048576) (h2 : psum X X.length ≤ 1048576) (h3 : f.length ≤ 1048576) : (sayX X f).length ≤ 140000000 ∧ (∀ x ∈ sayX X f, x.length ≤ 1099511627776) ∧ psum (sayX X f) (sayX X f).length ≤ 140000000 := by
  have hs : List.Sublist (sayX X f) (X ++ [f]) := by
    unfold sayX
    split
    · exact List.Sublist.refl _
    · exact List.sublist_append_left _ _
  refine sub_sizes hs (by simp; omega) ?_
  rw [psum_all] at h2 ⊢
  simp
  omega
theorem tb_sizes {X : List (List Int)} {f : List Int} (h1 : X.length ≤ 1048576) (h2 : psum X X.length ≤ 1048576) : (tbX X f).length ≤ 140000000 ∧ (∀ x ∈ tbX X f, x.length ≤ 1099511627776) ∧ psum (tbX X f) (tbX X f).length ≤ 140000000 := by
  have hs : List.Sublist (tbX X f) X := by
    unfold tbX
    split
    · have e : X = X.take (fndN X f) ++ X.drop (fndN X f) := (List.take_append_drop _ _).symm
      conv => rhs; rw [e]
      refine (List.append_sublist_append_left _).2 ?_
      rw [← List.drop_drop (i := 1) (j := fndN X f)]
      exact List.drop_sublist _ _
    · exact List.Sublist.refl _
  exact sub_sizes hs (by omega) (by omega)
theorem qua_sizes {X : List (List Int)} {f : List Int} (h1 : X.length ≤ 1048576) (h2 : psum X X.length ≤ 1048576) : (quaX X f).length ≤ 140000000 ∧ (∀ x ∈ quaX X f, x.length ≤ 1099511627776) ∧ psum (quaX X f) (quaX X f).length ≤ 140000000 := by
  have hs : List.Sublist (quaX X f) X := by
    unfold quaX
    split
    · exact List.filter_sublist
    · exact List.nil_sublist _
  exact sub_sizes hs (by omega) (by omega)
end Go.Proofs.Ytfcckpapcnhejaa
