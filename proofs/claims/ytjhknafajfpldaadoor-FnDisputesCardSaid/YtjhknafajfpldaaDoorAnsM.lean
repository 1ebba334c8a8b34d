/- Contracts of the models of AnswersTo, LongestGame, CountLoops. No conditions but that the slices have at most 2^40 elements. -/
import Derived.Test.YtjhknafajfpldaaDoorMg9
import Derived.Test.YtjhknafajfpldaaDoorMg20
import Derived.Test.YtjhknafajfpldaaDoorGameMath
import Derived.Test.YtjhknafajfpldaaDoorMg27
namespace Go.Proofs.YtjhknafajfpldaaDoor
open Go.ChangeShapes Go.WideShapes Go.ChangeAt Go.RowKit
set_option maxRecDepth 100000
def lonG (N : Int) (X : List (List Int)) : Int := if gB N X then 2 * N else 0
theorem atk_len (N : Int) (X : List (List Int)) (c : Int) : (atk N X c).length ≤ 10 := by
  cases hg : gB N X with
  | false => unfold atk; rw [hg]; simp
  | true =>
    have hs := atk_asc N X c
    have hb : ∀ z ∈ atk N X c, 0 ≤ z ∧ z < 10 := fun z hz => by
      obtain ⟨n, p, _, hn, rfl, hp⟩ := atk_claim hz
      omega
    have key : ∀ (l : List Int) (lo : Int), l.Pairwise (· < ·) → (∀ z ∈ l, lo ≤ z ∧ z < 10) → lo ≤ 10 → (l.length : Int) ≤ 10 - lo := by
      intro l
      induction l with
      | nil => intro lo _ _ h; simp; omega
      | cons z l ih =>
        intro lo hp hb _
        rw [List.pairwise_cons] at hp
        have hz := hb z (by simp)
        have := ih (z + 1) hp.2 (fun y hy => ⟨by have := hp.1 y hy; omega, (hb y (by simp [hy])).2⟩) (by omega)
        rw [List.length_cons]
        push_cast
        omega
    have := key _ 0 hs hb (by omega)
    omega
def loopT (X : List (List Int)) (k : Nat) : Nat := ((X.take k).filter loopP).length
theorem loopT_le (X : List (List Int)) (k : Nat) : loopT X k ≤ k := filt_len X loopP k
end Go.Proofs.YtjhknafajfpldaaDoor
