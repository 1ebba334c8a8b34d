/- Contract of the model of Labels. No conditions but that the slices have at most 2^40 elements. -/
import Derived.Test.YtncndlojceiejaaGroundM
namespace Go.Proofs.Ytncndlojceiejaa
open Go.ChangeShapes Go.WideShapes Go.ChangeAt Go.RowKit
set_option maxRecDepth 100000
theorem StringS_info : (Try.prog.info? 9).map (fun i => (i.zero, i.size, i.bytes)) = some (some (.string ByteArray.empty), 1, 16) := by kernel_rfl
def svs (zs : List ByteArray) : List Value := zs.map Value.string
theorem svs_len (zs : List ByteArray) : (svs zs).length = zs.length := by simp [svs]
theorem svs_snoc (zs : List ByteArray) (x : ByteArray) : svs zs ++ [Value.string x] = svs (zs ++ [x]) := by simp [svs]
def lab (N : Int) (X : List (List Int)) (k : Nat) : ByteArray :=
  if (grd N X).contains (k : Int) then ⟨#[105, 110]⟩ else if (hit N X (grd N X)).contains (k : Int) then ⟨#[111, 117, 116]⟩ else ⟨#[111, 112, 101, 110]⟩
def labT (N : Int) (X : List (List Int)) (k : Nat) : List ByteArray := (List.range k).map (lab N X)
/-- The labels of a graph's claims. -/
def labs (N : Int) (X : List (List Int)) : List ByteArray := if gB N X then labT N X N.toNat else []
theorem labT_succ (N : Int) (X : List (List Int)) (k : Nat) : labT N X (k + 1) = labT N X k ++ [lab N X k] := by simp [labT, List.range_succ]
theorem labT_len (N : Int) (X : List (List Int)) (k : Nat) : (labT N X k).length = k := by simp [labT]
theorem grd_len (N : Int) (X : List (List Int)) : (grd N X).length ≤ 10 := it_len10 N X 10
/-- One element is appended: which block alone may turn, and which block the row then has. -/
theorem wpList_app2 {P : Program} {w : World} {ops : Array Oper} {rest : List Oper} {o : Oper} {a : Act} {Q : Exit → Act → World → Prop} (hgd : o.guard = none) (s x : Operand) (t : TypeId)
    (ho : o.op = .call { callee := .builtin .append, args := #[s, x], argTypes := #[t, t] })
    (e : TypeId) (i : TypeInfo) (z : Value) (bytes : Nat) (ht : P.underlying t = some (.slice e)) (hi : P.info? e = some i) (hz : i.zero = some z) (hsize : i.size = 1) (hby : i.bytes = bytes) (hzs : z.cells.size = 1)
    {lo hi' B m c : Nat} {v : Value} {xs news : List Value} {ad : Addr} (hs : a.eval s = v) (hx : a.eval x = .slice (some ad) m c) (hrow : Row w lo hi' e v xs) (hm : news.length = m) (hr : Rd w B (some ad) news) (h1 : ∀ u ∈ news, u.oneCell' = true)
    (h63 : xs.length + m ≤ maxLen) (hbytes : (xs.length + m) * bytes ≤ 140737488355328) (hlo : lo ≤ w.heap.size)
    (K : ∀ v' w', Row w' lo w'.heap.size e v' (xs ++ news) → w.heap.size ≤ w'.heap.size → Below lo w w' → (∀ b, b < w.heap.size → v.ownBlock ≠ some b → w'.heap[b]? = w.heap[b]?) → (∀ b, v'.ownBlock = some b → v.ownBlock = some b ∨ b = w.heap.size) → wpList P ops Q rest (a.put o.dst v') w') : wpList P ops Q (o :: rest) a w := by
  obtain ⟨v', w', hrun, h2, h3⟩ := run_app (P := P) t o.type e i z bytes ht hi hz hsize hby hzs (c := c) hrow hm hr h1 h63 hbytes hlo
  obtain ⟨v2, w2, hrun2, _, b2, _, b4⟩ := run_append_own_at (P := P) w lo t o.type e i z 1 bytes ht hi hz hsize hby hzs (by omega) v xs.length xs hrow.1 ad m c news (by omega) (fun j u hu => by
    obtain ⟨ad', e1, _, hc⟩ := hr j u hu
    injection e1 with e1
    subst e1
    exact hc) h1 h63 hbytes hlo
  rw [hrun] at hrun2
  injection hrun2 with e1 e2
  subst e1
  subst e2
  refine wpList_plain hgd fun K' hK' => ?_
  unfold Oper.wp
  simp [execOp, ho, resolve, invoke, builtin, hs, hx, hrun, Result.andThen]
  refine hK' _ _ (K v' w' h2 b2.size ?_ (fun b hb hv => b2.block b hb (fun e => hv e.symm)) (fun b hb => ?_))
  · exact (Below.refl lo w).grown b2 hlo (fun k hk => by
      rcases hrow.1.2 with ⟨rfl, _⟩ | ⟨g, cap, cur, rfl, hg, _⟩
      · simp [Value.ownBlock] at hk
      · have : g = k := by simpa [Value.ownBlock] using hk
        omega)
  · rcases b4 with b4 | b4
    · exact .inl (b4 ▸ hb)
    · rw [b4] at hb
      injection hb with hb
      exact .inr hb.symm
end Go.Proofs.Ytncndlojceiejaa
