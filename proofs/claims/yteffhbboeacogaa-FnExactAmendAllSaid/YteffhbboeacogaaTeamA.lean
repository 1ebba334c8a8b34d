/- Contracts of the laws' own functions over teams: toTeam, toTeamS, szTeam, szTeamS, eqTeam, eqTeamS. No conditions but that the slices have at most 2^40 elements. -/
import Derived.Test.YteffhbboeacogaaTeamR
import Derived.Test.YteffhbboeacogaaGraph
import Derived.BigQuiet
import Derived.Deep.Quiet
namespace Go.Proofs.Yteffhbboeacogaa
open Go.ChangeShapes Go.WideShapes Go.ChangeAt Go.RowKit
set_option maxRecDepth 100000
def Tm.v (x : Tm) (u : Value) : Value := .agg #[.int .i64 x.id, .int .i64 x.club, .int .i64 x.wins, .int .i64 x.pts, .int .i64 x.firsts, u]
theorem Tm_mets_get {X : List Tm} {k : Nat} (h : k < X.length) : psum (X.map Tm.met) (k + 1) = psum (X.map Tm.met) k + X[k].met.length := by
  rw [psum_succ _ k (by simpa using h)]; simp
theorem Tm_mets_mem {X : List Tm} {k : Nat} (h : k < X.length) : X[k].met.length ≤ psum (X.map Tm.met) X.length := by
  have := psum_mem (X.map Tm.met) X[k].met (List.mem_map.2 ⟨X[k], List.getElem_mem _, rfl⟩)
  simpa using this
/-- Either all is counted, or there is too much. -/
def SzT (q : Int) (X : List Tm) (w : World) (e : Ending) (w' : World) : Prop :=
  ∃ r : Int, e = .returned (.int .i64 r) ∧ Below w.heap.size w w' ∧ (r = -1 ∨ 0 ≤ r ∧ r + (X.length : Int) + (psum (X.map Tm.met) X.length : Int) ≤ q)
end Go.Proofs.Yteffhbboeacogaa
