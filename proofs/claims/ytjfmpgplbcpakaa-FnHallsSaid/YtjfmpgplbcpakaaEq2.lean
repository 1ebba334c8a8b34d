/- Comparing two structs of two integers, over any program: the law of the operation for a walk. No conditions. -/
import Derived.Test.YtjfmpgplbcpakaaRow2
import Derived.ChangeKeysEq
import Derived.Laws.StructEq
namespace Go.Proofs.Ytjfmpgplbcpakaa
open Go.ChangeShapes Go.WideShapes Go.ChangeAt Go.RowKit
set_option maxRecDepth 100000
theorem s2_eql {P : Program} {t ti : TypeId} {n1 n2 : String} {w : World} (ht : P.underlying t = some (.struct (P.fieldsOf t))) (hp : P.stoodInHeld t = false) (hf : (P.fieldsOf t).toList.map (fun f => (f.name, f.type, f.offset)) = [(n1, ti, 0), (n2, ti, 1)]) (h1 : n1 ≠ "_") (h2 : n2 ≠ "_") (hi : P.underlying ti = some (.int .i64)) (a b x y : Int) :
    (binOp .eql t (.agg #[.int .i64 a, .int .i64 b]) (.agg #[.int .i64 x, .int .i64 y])).run P w = .ok (.bool (a == x && b == y)) w := by
  rw [run_eql_struct, run_equalIn_agg w 9999 _ _ _ ht hp]
  generalize (P.fieldsOf t).toList = fs at hf ⊢
  have hl : fs.length = 2 := by have := congrArg List.length hf; simpa using this
  match fs, hl with
  | [f1, f2], _ =>
    simp only [List.map_cons, List.map_nil, List.cons.injEq, Prod.mk.injEq, and_true] at hf
    obtain ⟨⟨a1, a2, a3⟩, b1, b2, b3⟩ := hf
    have p1 : ∀ (cs : Array Value) (k : Nat) (v : Value) (w : World), cs[k]? = some v → (part ti cs k).run P w = .ok v w := fun cs k v w h => by
      simp [part, isAgg, Sem.run_bind, run_underlying hi, h]
    have q0 : (#[Value.int .i64 a, .int .i64 b] : Array Value)[0]? = some (.int .i64 a) := rfl
    have q1 : (#[Value.int .i64 a, .int .i64 b] : Array Value)[1]? = some (.int .i64 b) := rfl
    have q2 : (#[Value.int .i64 x, .int .i64 y] : Array Value)[0]? = some (.int .i64 x) := rfl
    have q3 : (#[Value.int .i64 x, .int .i64 y] : Array Value)[1]? = some (.int .i64 y) := rfl
    simp only [Op.eqFields, a1, a2, a3, b1, b2, b3, if_pos h1, if_pos h2, Sem.run_bind, p1 _ _ _ _ q0, p1 _ _ _ _ q2, Result.andThen_ok, run_equalIn_int w 9998 _ _ _ _ _ hi]
    cases (a == x)
    · simp
    · simp only [Bool.not_true, Bool.false_eq_true, if_false, Sem.run_bind, p1 _ _ _ _ q1, p1 _ _ _ _ q3, Result.andThen_ok, run_equalIn_int w 9998 _ _ _ _ _ hi]
      cases (b == y) <;> simp
theorem eq2 {P : Program} {w : World} {ops : Array Oper} {rest : List Oper} {o : Oper} {a : Act} {Q : Exit → Act → World → Prop} (hgd : o.guard = none) (x y : Operand) {t ti : TypeId} (ho : o.op = .binOp .eql t x y t) {n1 n2 : String}
    (ht : P.underlying t = some (.struct (P.fieldsOf t))) (hp : P.stoodInHeld t = false) (hf : (P.fieldsOf t).toList.map (fun f => (f.name, f.type, f.offset)) = [(n1, ti, 0), (n2, ti, 1)]) (h1 : n1 ≠ "_") (h2 : n2 ≠ "_") (hi : P.underlying ti = some (.int .i64)) {p q r s : Int} (hm : P.eqGuardType P.depth t = false)
    (hx : a.eval x = .agg #[.int .i64 p, .int .i64 q]) (hy : a.eval y = .agg #[.int .i64 r, .int .i64 s]) (K : wpList P ops Q rest (a.put o.dst (.bool (p == r && q == s))) w) : wpList P ops Q (o :: rest) a w := by
  refine wpList_plain hgd fun K' hK' => ?_
  have e1 := s2_eql (w := w) ht hp hf h1 h2 hi p q r s
  have e2 := run_eqGuard_agg (P := P) w .eql t x y #[.int .i64 p, .int .i64 q] #[.int .i64 r, .int .i64 s] hm
  unfold Oper.wp execOp
  simp only [ho, hx, hy, Sem.run_bind, Sem.run_pure, e1, e2, Result.andThen_ok]
  exact hK' _ _ K
end Go.Proofs.Ytjfmpgplbcpakaa
