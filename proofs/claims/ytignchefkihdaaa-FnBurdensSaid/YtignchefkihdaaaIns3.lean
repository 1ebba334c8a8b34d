/- Rows of structs of three integers: copies between them, the operation append of a make, over any program. No conditions but the machine's bound on bytes. -/
import Derived.Test.YtignchefkihdaaaRow3
import Derived.Test.YtignchefkihdaaaDraw3
import Derived.Laws.CopyRow
import Derived.Lib.AppendZerosOnto
import Derived.Lib.Overlaps
import Derived.Deep.RegionLaw
namespace Go.Proofs.Ytignchefkihdaaa
open Go.ChangeShapes Go.WideShapes Go.ChangeAt Go.RowKit
set_option maxRecDepth 100000
section
variable {P : Program}
/-- copy(d, s) of m structs into a row that is known: all is read before anything is written. -/
theorem run_copy3 (w : World) (dT sT ty elem : TypeId) (g o dLen dCap : Nat) (a : Addr) (sLen sCap m : Nat) (cur : Array Value) (t : TypeId) (cs : List Value)
    (hu : P.underlying dT = some (.slice elem)) (hs : (P.info? elem).map (·.size) = some 3) (hm : Nat.min sLen dLen = m)
    (hg : w.heap[g]? = some (.cells cur t (0, 0))) (hn : cs.length = m * 3)
    (hsrc : ∀ j v, cs[j]? = some v → w.cell? (a.add j) = some v) (hfit : o + cs.length ≤ cur.size) (h1 : ∀ v ∈ cs, v.oneCell' = true) :
    (Builtin.copy_ #[dT, sT] ty #[.slice (some ⟨g, o, none⟩) dLen dCap, .slice (some a) sLen sCap]).run P w =
      .ok (goInt m) (w.setRow g (cur.toList.take o ++ cs ++ cur.toList.drop (o + cs.length)).toArray) := by
  have hl := run_loadCells_list (P := P) w a cs hsrc
  have hst := run_storeCells_at P g o t cs 0 cur w hg (by simpa using hfit) h1
  cases hq : P.info? elem with
  | none => simp [hq] at hs
  | some i =>
    have hi : i.size = 3 := by simpa [hq] using hs
    simp [Builtin.copy_, run_underlying hu, Builtin.lenOf, Builtin.firstCells, sizeOf, typeInfo, hq, hi, hm, ← hn, hl, hst]
theorem wpList_cp3 (w : World) {ops : Array Oper} {rest : List Oper} {o : Oper} {a : Act} {Q : Exit → Act → World → Prop} (hgd : o.guard = none) (d s : Operand) (t t' : TypeId)
    (ho : o.op = .call { callee := .builtin .copy, args := #[d, s], argTypes := #[t, t'] }) (v u : Value) (hd : a.eval d = v) (hs : a.eval s = u) {v' : Value} {w' : World}
    (hr : (Builtin.copy_ #[t, t'] o.type #[v, u]).run P w = .ok v' w') (h : wpList P ops Q rest (a.put o.dst v') w') : wpList P ops Q (o :: rest) a w := by
  refine wpList_plain hgd fun K' hK' => ?_
  unfold Oper.wp
  simp [execOp, ho, resolve, invoke, builtin, hd, hs, hr, Result.andThen]
  exact hK' _ _ h
theorem step_cp3 {ops : Array Oper} {o : Oper} {a : Act} {w : World} {K : Act → World → Prop} {Q : Exit → Act → World → Prop} {E : Prop}
    (hg : o.guard = none) (d x : Operand) (dT sT : TypeId) (hop : o.op = Op.call { callee := Callee.builtin Builtin.copy, args := #[d, x], argTypes := #[dT, sT] })
    (v u : Value) (hd : a.eval d = v) (hx : a.eval x = u) {v' : Value} {w' : World} (hr : (Builtin.copy_ #[dT, sT] o.type #[v, u]).run P w = .ok v' w') (hK : K (a.put o.dst v') w') :
    if Region.wanted o (yielded ops a.tmps) = true then Oper.wp P o a w K Q else E := by
  have hw : Region.wanted o (yielded ops a.tmps) = true := by simp [Region.wanted, hg]
  rw [if_pos hw]
  unfold Oper.wp
  simp [execOp, hop, resolve, invoke, builtin, hd, hx, hr, Result.andThen]
  exact hK
theorem wpList_az3 (w : World) {ops : Array Oper} {rest : List Oper} {o : Oper} {a : Act} {Q : Exit → Act → World → Prop} (hgd : o.guard = none) (d s : Operand) (t t' : TypeId)
    (ho : o.op = .call { callee := .builtin .append, args := #[d, s], argTypes := #[t, t'] }) (v u : Value) (hd : a.eval d = v) (hs : a.eval s = u) {v' : Value} {w' : World}
    (hr : (Builtin.append_ #[t, t'] o.type #[v, u]).run P w = .ok v' w') (h : wpList P ops Q rest (a.put o.dst v') w') : wpList P ops Q (o :: rest) a w := by
  refine wpList_plain hgd fun K' hK' => ?_
  unfold Oper.wp
  simp [execOp, ho, resolve, invoke, builtin, hd, hs, hr, Result.andThen]
  exact hK' _ _ h
end
/-- A list's middle written over. -/
def ovr (l : List Value) (o : Nat) (cs : List Value) : List Value := l.take o ++ cs ++ l.drop (o + cs.length)
theorem ovr_len {l : List Value} {o : Nat} {cs : List Value} (h : o + cs.length ≤ l.length) : (ovr l o cs).length = l.length := by
  unfold ovr
  simp
  omega
theorem take_t3 {cur : List Value} {X : List T3} {n k : Nat} (h : cur.take (n * 3) = t3s X) (_hn : X.length = n) (hk : k ≤ n) : cur.take (k * 3) = t3s (X.take k) := by
  rw [← t3s_take, ← h, List.take_take, Nat.min_eq_left (by omega)]
theorem drop_t3 {cur : List Value} {X : List T3} {n k : Nat} (h : cur.take (n * 3) = t3s X) (_hn : X.length = n) (hk : k ≤ n) : (cur.drop (k * 3)).take ((n - k) * 3) = t3s (X.drop k) := by
  rw [← t3s_drop, ← h, List.drop_take]
  congr 1
  omega
/-- What an insertion in place leaves in the row. -/
theorem ins_cells {cur : List Value} {X : List T3} {n c i : Nat} {x : T3} (h : cur.take (n * 3) = t3s X) (hn : X.length = n) (hi : i < n) (hc : cur.length = c * 3) (hnc : n + 1 ≤ c) :
    (ovr (ovr cur ((i + 1) * 3) (t3s (X.drop i))) (i * 3) (t3s [x])).take ((n + 1) * 3) = t3s (X.take i ++ [x] ++ X.drop i) ∧ (ovr (ovr cur ((i + 1) * 3) (t3s (X.drop i))) (i * 3) (t3s [x])).length = c * 3 := by
  have hl1 : (t3s (X.drop i)).length = (n - i) * 3 := by rw [t3s_len, List.length_drop, hn]
  have hlx : (t3s [x]).length = 3 := rfl
  have hA := ovr_len (l := cur) (o := (i + 1) * 3) (cs := t3s (X.drop i)) (by rw [hl1, hc]; omega)
  have hB := ovr_len (l := ovr cur ((i + 1) * 3) (t3s (X.drop i))) (o := i * 3) (cs := t3s [x]) (by rw [hA, hlx, hc]; omega)
  refine ⟨?_, by rw [hB, hA, hc]⟩
  have h1 : (ovr cur ((i + 1) * 3) (t3s (X.drop i))).take (i * 3) = t3s (X.take i) := by
    unfold ovr
    rw [List.append_assoc, List.take_append_of_le_length (by rw [List.length_take, hc]; omega), List.take_take, Nat.min_eq_left (by omega)]
    exact take_t3 h hn (by omega)
  have h2 : (ovr cur ((i + 1) * 3) (t3s (X.drop i))).drop (i * 3 + 3) = t3s (X.drop i) ++ cur.drop ((i + 1) * 3 + (t3s (X.drop i)).length) := by
    unfold ovr
    rw [List.append_assoc, List.drop_append_of_le_length (by rw [List.length_take, hc]; omega), List.drop_eq_nil_of_le (by rw [List.length_take]; omega), List.nil_append]
  show ((ovr cur ((i + 1) * 3) (t3s (X.drop i))).take (i * 3) ++ t3s [x] ++ (ovr cur ((i + 1) * 3) (t3s (X.drop i))).drop (i * 3 + (t3s [x]).length)).take ((n + 1) * 3) = _
  rw [h1, hlx, h2, t3s_app, t3s_app, ← List.append_assoc]
  rw [List.take_append_of_le_length (by rw [List.length_append, List.length_append, hl1, hlx, t3s_len, List.length_take, hn]; omega)]
  rw [List.take_of_length_le (by rw [List.length_append, List.length_append, hl1, hlx, t3s_len, List.length_take, hn]; omega)]
end Go.Proofs.Ytignchefkihdaaa
