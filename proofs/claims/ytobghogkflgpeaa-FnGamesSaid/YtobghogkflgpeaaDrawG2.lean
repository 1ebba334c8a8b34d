/- Contracts of the draws of graphs: l4Any, l4Set. Condition: as for the cursor's own functions. -/
import Derived.Test.YtobghogkflgpeaaDrawG
import Derived.Test.YtobghogkflgpeaaMg3
namespace Go.Proofs.Ytobghogkflgpeaa
open Go.ChangeShapes Go.WideShapes Go.ChangeAt Go.RowKit
set_option maxRecDepth 100000
theorem own_ty {w : World} {lo n b : Nat} {t : TypeId} {v : Value} {xs : List Value} (h : w.ownsRow lo t 1 v n xs) (hb : v.ownBlock = some b) : ∃ cs, w.heap[b]? = some (.cells cs t (0, 0)) := by
  rcases h.2 with ⟨rfl, _⟩ | ⟨g, cap, cur, rfl, _, hg, _⟩
  · simp [Value.ownBlock] at hb
  · have : g = b := by simpa [Value.ownBlock] using hb
    subst this
    exact ⟨cur, hg⟩
/-- The blocks of a list of lists are none of a graph's own. -/
theorem OwnSS.setG {w : World} {lo hi g : Nat} {v : Value} {X : List (List Int)} {cs : Array Value} (h : OwnSS w lo hi v X) (hb : Bx w g 27 cs) (k : Nat) (u : Value) : OwnSS (w.setCell ⟨g, k, none⟩ u) lo hi v X := by
  obtain ⟨F, hrow, hnd, hF⟩ := h
  refine ⟨F, SSR_frames.keep hrow (fun b hbF => heap_setCell_other w ⟨g, k, none⟩ b u (fun e => ?_)), hnd, hF⟩
  have hbg : b = g := e
  subst hbg
  obtain ⟨v0, es, a1, a2, a3, a4, a5, a6, a7⟩ := hrow
  rw [a4, List.mem_append] at hbF
  rcases hbF with hbF | hbF
  · have hv : v0.ownBlock = some b := by
      cases ho : v0.ownBlock with
      | none => rw [ho] at hbF; simp at hbF
      | some z => rw [ho] at hbF; simp at hbF; rw [hbF]
    obtain ⟨cur, hc⟩ := own_ty a3 hv
    rw [hb] at hc
    injection hc with hc
    injection hc with _ ht _
    exact absurd ht (by decide)
  · rw [List.mem_flatMap] at hbF
    obtain ⟨p, hp, hbp⟩ := hbF
    obtain ⟨i, hi, rfl⟩ := List.getElem_of_mem hp
    obtain ⟨u', h1, h2, h3⟩ := a7 i es[i] (X[i]'(by omega)) (List.getElem?_eq_getElem hi) (List.getElem?_eq_getElem (by omega))
    have hv : u'.ownBlock = some b := by
      rw [h3] at hbp
      cases ho : u'.ownBlock with
      | none => rw [ho] at hbp; simp at hbp
      | some z => rw [ho] at hbp; simp at hbp; rw [hbp]
    obtain ⟨cur, hc⟩ := own_ty h2 hv
    rw [hb] at hc
    injection hc with hc
    injection hc with _ ht _
    exact absurd ht (by decide)
theorem step_appSS2 {w : World} {ops : Array Oper} {o : Oper} {a : Act} {Q : Exit → Act → World → Prop} {K : Act → World → Prop} {E : Prop} (hgd : o.guard = none) (s y : Operand) (ho : o.op = .call { callee := .builtin .append, args := #[s, y], argTypes := #[22, 22] })
    {L M lo hi B c : Nat} {v u : Value} {X : List (List Int)} {x : List Int} {ad : Addr} (hs : a.eval s = v) (hy : a.eval y = .slice (some ad) 1 c) (h : OwnSS w L M v X) (hx : Row w lo hi 3 u (ivs x)) (hr : Rd w B (some ad) [u]) (hd : M ≤ lo) (hLM : L ≤ M) (hn : X.length + 1 ≤ 1099511627777) (hL : L ≤ w.heap.size)
    (hK : ∀ v' w', OwnSS w' L w'.heap.size v' (X ++ [x]) → Below L w w' → (∀ b, b < w.heap.size → v.ownBlock ≠ some b → w'.heap[b]? = w.heap[b]?) → K (a.put o.dst v') w') : if Region.wanted o (yielded ops a.tmps) = true then Oper.wp Try.prog o a w K Q else E := by
  obtain ⟨v', w', hrun, h2, h3, h4, _⟩ := run_appSS2 o.type (c := c) h hx hr hd hLM hn hL
  have hw : Region.wanted o (yielded ops a.tmps) = true := by simp [Region.wanted, hgd]
  rw [if_pos hw]
  unfold Oper.wp
  simp [execOp, ho, resolve, invoke, builtin, hs, hy, hrun, Result.andThen]
  exact hK v' w' h2 h3 h4
theorem OwnSS.own_lt {w : World} {lo hi b : Nat} {v : Value} {X : List (List Int)} (h : OwnSS w lo hi v X) (hb : v.ownBlock = some b) : b < hi := by
  obtain ⟨F, ⟨v0, es, a1, a2, a3, a4, _⟩, _, hF⟩ := h
  have hvv : v = v0 := by simpa using a1
  subst hvv
  exact (hF b (by rw [a4, hb]; simp)).2
end Go.Proofs.Ytobghogkflgpeaa
