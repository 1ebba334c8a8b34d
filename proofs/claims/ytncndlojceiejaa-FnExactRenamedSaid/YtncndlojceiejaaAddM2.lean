/- Contract of the model of AddAttack. Condition: the slices have at most 2^40 - 1 elements. -/
import Derived.Test.YtncndlojceiejaaAddM
import Derived.Test.YtncndlojceiejaaAddN
namespace Go.Proofs.Ytncndlojceiejaa
open Go.ChangeShapes Go.WideShapes Go.ChangeAt Go.RowKit
theorem specAddAttack_any {w : World} {A : Option Addr} {n c : Nat} {N a b : Int} {X : List (List Int)} (hl : Hid (X.length = n)) (hn : n ≤ 1099511627775) (hs : Hid (∀ x ∈ X, x.length ≤ 1099511627776)) (hr : RdSS w w.heap.size A X) :
    Calls Try.prog 8 #[.agg #[.int .i64 N, .slice A n c], .int .i64 a, .int .i64 b] w (FreshGB N (addL N X a b) (canA N X a b) w) := by
  by_cases hg : gB N X = true
  · obtain ⟨m, rfl, _, _, _⟩ := gB_ok hg
    exact specAddLoop hl hn hs hr hg
  · exact specAddNo hl (by omega) hs hr (by simpa using hg)
end Go.Proofs.Ytncndlojceiejaa
