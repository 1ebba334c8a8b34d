/- Sizes of the graph without a claim. -/
import Derived.Test.YtncndlojceiejaaWoM
namespace Go.Proofs.Ytncndlojceiejaa
theorem sum_two : ∀ (Y : List (List Int)), (∀ y ∈ Y, y.length = 2) → (Y.map List.length).sum = 2 * Y.length
  | [], _ => rfl
  | y :: Y, h => by
    rw [List.map_cons, List.sum_cons, sum_two Y fun z hz => h z (List.mem_cons_of_mem _ hz), h y (by simp), List.length_cons]
    omega
theorem psum_two {Y : List (List Int)} (h : ∀ y ∈ Y, y.length = 2) : psum Y Y.length = 2 * Y.length := by
  unfold psum
  rw [List.take_length]
  exact sum_two Y h
theorem woY_sizes {N : Int} {X : List (List Int)} {a : Int} (h1 : X.length ≤ 1048576) (h2 : psum X X.length ≤ 1048576) : (woY N X a).length ≤ 140000000 ∧ (∀ x ∈ woY N X a, x.length ≤ 1099511627776) ∧ psum (woY N X a) (woY N X a).length ≤ 140000000 := by
  unfold woY
  split
  · have hl : (woX X a).length ≤ X.length := by unfold woX; rw [List.length_map]; exact List.length_filter_le _ _
    have h3 : ∀ y ∈ woX X a, y.length = 2 := fun y hy => by
      unfold woX at hy
      obtain ⟨x, _, rfl⟩ := List.mem_map.1 hy
      rfl
    exact ⟨by omega, fun y hy => by rw [h3 y hy]; decide, by rw [psum_two h3]; omega⟩
  · exact ⟨by omega, fun x hx => Nat.le_trans (psum_mem X x hx) (by omega), by omega⟩
end Go.Proofs.Ytncndlojceiejaa
