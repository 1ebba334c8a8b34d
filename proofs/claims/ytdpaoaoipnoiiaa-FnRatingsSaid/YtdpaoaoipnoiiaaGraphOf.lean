/- Contract of the code's (attackRows).graph. Conditions: at most 10 claims, rows below 2^16. -/
import Derived.Test.YtdpaoaoipnoiiaaCopyM
import Derived.Test.YtdpaoaoipnoiiaaBits2
namespace Go.Proofs.Ytdpaoaoipnoiiaa
open Go.ChangeShapes Go.WideShapes Go.ChangeAt Go.RowKit
set_option maxRecDepth 100000
section
variable {w : World} {ops : Array Oper} {rest : List Oper} {o : Oper} {a : Act} {Q : Exit → Act → World → Prop}
theorem run_appSS2 (ty : TypeId) {L M lo hi B c : Nat} {v u : Value} {X : List (List Int)} {x : List Int} {ad : Addr} (h : OwnSS w L M v X) (hx : Row w lo hi 3 u (ivs x)) (hr : Rd w B (some ad) [u]) (hd : M ≤ lo) (hLM : L ≤ M) (hn : X.length + 1 ≤ 1099511627777) (hL : L ≤ w.heap.size) :
    ∃ v' w', (Builtin.append_ #[30, 30] ty #[v, .slice (some ad) 1 c]).run Try.prog w = .ok v' w' ∧ OwnSS w' L w'.heap.size v' (X ++ [x]) ∧ Below L w w' ∧
      (∀ b, b < w.heap.size → v.ownBlock ≠ some b → w'.heap[b]? = w.heap[b]?) ∧ ∀ b, v'.ownBlock = some b → v.ownBlock = some b ∨ b = w.heap.size := by
  obtain ⟨v', w', hrun, h2, h3⟩ := run_appSS ty (c := c) h hx hr hd hLM hn hL
  obtain ⟨F, ⟨v0, es, a1, a2, a3, _⟩, _, _⟩ := h
  have hvv : v = v0 := by simpa using a1
  subst hvv
  obtain ⟨i0, hi0, hz0, hz1, hz2⟩ := info_parts IntSS_info
  have hcells : ∀ (j : Nat) u', ([u] : List Value)[j]? = some u' → w.cell? (ad.add j) = some u' := fun j u' hu => by
    obtain ⟨ad', e1, _, hc⟩ := hr j u' hu
    injection e1 with e1
    subst e1
    exact hc
  obtain ⟨v2, w2, hrun2, _, b2, _, b4⟩ := run_append_own_at (P := Try.prog) w 0 30 ty 29 i0 _ 1 24 Try.underlying30 hi0 hz0 hz1 hz2 rfl (by omega) v X.length _ a3 ad 1 c [u] (by simp) hcells (by simp [row_cell hx]) (by unfold maxLen; omega) (by omega) (Nat.zero_le _)
  rw [hrun] at hrun2
  injection hrun2 with e1 e2
  subst e1
  subst e2
  refine ⟨v', w', hrun, h2, h3, fun b hb hv => b2.block b hb (fun e => hv e.symm), fun b hb => ?_⟩
  rcases b4 with b4 | b4
  · exact .inl (b4 ▸ hb)
  · rw [b4] at hb
    injection hb with hb
    exact .inr hb.symm
theorem wpList_appSS2 (hgd : o.guard = none) (s y : Operand) (ho : o.op = .call { callee := .builtin .append, args := #[s, y], argTypes := #[30, 30] })
    {L M lo hi B c : Nat} {v u : Value} {X : List (List Int)} {x : List Int} {ad : Addr} (hs : a.eval s = v) (hy : a.eval y = .slice (some ad) 1 c) (h : OwnSS w L M v X) (hx : Row w lo hi 3 u (ivs x)) (hr : Rd w B (some ad) [u]) (hd : M ≤ lo) (hLM : L ≤ M) (hn : X.length + 1 ≤ 1099511627777) (hL : L ≤ w.heap.size)
    (K : ∀ v' w', OwnSS w' L w'.heap.size v' (X ++ [x]) → Below L w w' → (∀ b, b < w.heap.size → v.ownBlock ≠ some b → w'.heap[b]? = w.heap[b]?) → (∀ b, v'.ownBlock = some b → v.ownBlock = some b ∨ b = w.heap.size) → wpList Try.prog ops Q rest (a.put o.dst v') w') : wpList Try.prog ops Q (o :: rest) a w := by
  obtain ⟨v', w', hrun, h2, h3, h4, h5⟩ := run_appSS2 o.type (c := c) h hx hr hd hLM hn hL
  refine wpList_plain hgd fun K' hK' => ?_
  unfold Oper.wp
  simp [execOp, ho, resolve, invoke, builtin, hs, hy, hrun, Result.andThen]
  exact hK' _ _ (K v' w' h2 h3 h4 h5)
end
def rowL (f : Nat → Nat) (k : Nat) : List (List Int) := (lsT (f k) 10).map fun b => [(k : Int), b]
/-- The pairs of rows, in order. -/
def glK (f : Nat → Nat) (k : Nat) : List (List Int) := (List.range k).flatMap (rowL f)
theorem glK_succ (f : Nat → Nat) (k : Nat) : glK f (k + 1) = glK f k ++ rowL f k := by simp [glK, List.range_succ, List.flatMap_append]
theorem glK_len (f : Nat → Nat) (k : Nat) : (glK f k).length ≤ 10 * k := by
  induction k with
  | zero => simp [glK]
  | succ k ih =>
    rw [glK_succ, List.length_append, rowL, List.length_map]
    have := lsT_len (f k) 10
    omega
end Go.Proofs.Ytdpaoaoipnoiiaa
