/- Contracts of the laws' own functions markJudgeS, heldJudgeS. No conditions but the sizes. -/
import Derived.Test.YtjjgdeojbpcjjaaJudgeA
import Derived.Test.YtjjgdeojbpcjjaaOne
namespace Go.Proofs.Ytjjgdeojbpcjjaa
open Go.ChangeShapes Go.WideShapes Go.ChangeAt Go.RowKit
set_option maxRecDepth 100000
/-- What the marks of one are. -/
def mk1J (a : Int) (n : Nat) : Jd := ⟨a, (a + 1), imks (a + 2) n⟩
def mkbJ (q : Int) (X : List Jd) (i : Nat) : Int := q + 2 * (i : Int) + (psum (X.map Jd.seen) i : Int)
def mkJ (q : Int) (X : List Jd) : List Jd := (List.range X.length).map fun (i : Nat) => mk1J (mkbJ q X i) (((X.map Jd.seen)).getD i []).length
theorem mkJ_len (q : Int) (X : List Jd) : (mkJ q X).length = X.length := by simp [mkJ]
theorem mkJ_get (q : Int) (X : List Jd) (k : Nat) (h : k < X.length) : (mkJ q X)[k]? = some (mk1J (mkbJ q X k) X[k].seen.length) := by
  simp [mkJ, h, List.getD]
theorem mkbJ_succ (q : Int) (X : List Jd) (k : Nat) (h : k < X.length) : mkbJ q X (k + 1) = mkbJ q X k + 2 + (X[k].seen.length : Int) := by
  unfold mkbJ
  rw [Jd_mets_get h]
  omega
theorem mkbJ_zero (q : Int) (X : List Jd) : mkbJ q X 0 = q := by
  unfold mkbJ; rw [psum_zero]; omega
def MarkedJ (q : Int) (lo hi : Nat) (v : Value) (X : List Jd) (w : World) (e : Ending) (w' : World) : Prop := e = .returned (.int .i64 q) ∧ OwnJ w' lo hi v X ∧ Out lo hi w w'
end Go.Proofs.Ytjjgdeojbpcjjaa
