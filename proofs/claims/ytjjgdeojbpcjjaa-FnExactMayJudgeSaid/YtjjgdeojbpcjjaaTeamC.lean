/- Contracts of the laws' own functions markTeamS, heldTeamS. No conditions but the sizes. -/
import Derived.Test.YtjjgdeojbpcjjaaTeamA
import Derived.Test.YtjjgdeojbpcjjaaOne
namespace Go.Proofs.Ytjjgdeojbpcjjaa
open Go.ChangeShapes Go.WideShapes Go.ChangeAt Go.RowKit
set_option maxRecDepth 100000
/-- What the marks of one are. -/
def mk1T (a : Int) (n : Nat) : Tm := ⟨a, (a + 1), (a + 2), (a + 3), (a + 4), imks (a + 5) n⟩
def mkbT (q : Int) (X : List Tm) (i : Nat) : Int := q + 5 * (i : Int) + (psum (X.map Tm.met) i : Int)
def mkT (q : Int) (X : List Tm) : List Tm := (List.range X.length).map fun (i : Nat) => mk1T (mkbT q X i) (((X.map Tm.met)).getD i []).length
theorem mkT_len (q : Int) (X : List Tm) : (mkT q X).length = X.length := by simp [mkT]
theorem mkT_get (q : Int) (X : List Tm) (k : Nat) (h : k < X.length) : (mkT q X)[k]? = some (mk1T (mkbT q X k) X[k].met.length) := by
  simp [mkT, h, List.getD]
theorem mkbT_succ (q : Int) (X : List Tm) (k : Nat) (h : k < X.length) : mkbT q X (k + 1) = mkbT q X k + 5 + (X[k].met.length : Int) := by
  unfold mkbT
  rw [Tm_mets_get h]
  omega
theorem mkbT_zero (q : Int) (X : List Tm) : mkbT q X 0 = q := by
  unfold mkbT; rw [psum_zero]; omega
def MarkedT (q : Int) (lo hi : Nat) (v : Value) (X : List Tm) (w : World) (e : Ending) (w' : World) : Prop := e = .returned (.int .i64 q) ∧ OwnT w' lo hi v X ∧ Out lo hi w w'
end Go.Proofs.Ytjjgdeojbpcjjaa
