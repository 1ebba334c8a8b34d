/- Contracts of the code's drop, say (a word is said, and dropped again by a deferred call if it does not bind). Condition: the slices have fewer than 2^40 elements. -/
import Derived.Test.YtignchefkihdaaaDoorDelC
import Derived.Test.YtignchefkihdaaaDoorCopyL
import Derived.Test.YtignchefkihdaaaDoorFndC
import Derived.Test.YtignchefkihdaaaDoorGraphOf
import Derived.Defers
namespace Go.Proofs.YtignchefkihdaaaDoor
open Go.ChangeShapes Go.WideShapes Go.ChangeAt Go.RowKit
set_option maxRecDepth 100000
theorem own_type {w : World} {lo n b : Nat} {t : TypeId} {v : Value} {xs : List Value} (h : w.ownsRow lo t 1 v n xs) (hb : v.ownBlock = some b) : ∃ cs, w.heap[b]? = some (.cells cs t (0, 0)) := by
  rcases h.2 with ⟨rfl, _⟩ | ⟨g, cap, cur, rfl, _, hg, _⟩
  · simp [Value.ownBlock] at hb
  · have : g = b := by simpa [Value.ownBlock] using hb
    subst this
    exact ⟨cur, hg⟩
theorem OwnSS.notOwn {w : World} {lo hi p : Nat} {t : TypeId} {v : Value} {X : List (List Int)} {cs : Array Value} (h : OwnSS w lo hi v X) (hb : Bx w p t cs) (ht : t ≠ 25) : v.ownBlock ≠ some p := fun e => by
  obtain ⟨F, ⟨v0, es, a1, a2, a3, _⟩, _, _⟩ := h
  have hv : v = v0 := by simpa using a1
  subst hv
  obtain ⟨cur, hc⟩ := own_type a3 e
  rw [hb] at hc
  injection hc with hc
  injection hc with _ h2 _
  exact ht h2
theorem Bx.neT {w : World} {g g' : Nat} {t t' : TypeId} {cs cs' : Array Value} (h : Bx w g t cs) (k : Bx w g' t' cs') (ht : t ≠ t') : g ≠ g' := fun e => by
  subst e
  have e := h.symm.trans k
  injection e with e
  injection e with _ h2 _
  exact ht h2
/-- The blocks of a list of lists are of two types: blocks of another type may turn. -/
theorem OwnSS.setT {w : World} {lo hi g : Nat} {t : TypeId} {v : Value} {X : List (List Int)} {cs : Array Value} (h : OwnSS w lo hi v X) (hb : Bx w g t cs) (ht : t ≠ 25) (ht2 : t ≠ 3) (k : Nat) (u : Value) : OwnSS (w.setCell ⟨g, k, none⟩ u) lo hi v X := by
  obtain ⟨F, hrow, hnd, hF⟩ := h
  refine ⟨F, SSR_frames.keep hrow (fun b hbF => heap_setCell_other w ⟨g, k, none⟩ b u (fun e => ?_)), hnd, hF⟩
  have hbg : b = g := e
  subst hbg
  obtain ⟨v0, es, a1, a2, a3, a4, a5, a6, a7⟩ := hrow
  rw [a4, List.mem_append] at hbF
  rcases hbF with hbF | hbF
  · have hv : v0.ownBlock = some b := by
      cases ho : v0.ownBlock with
      | none => rw [ho] at hbF; simp at hbF
      | some z => rw [ho] at hbF; simp at hbF; rw [hbF]
    obtain ⟨cur, hc⟩ := own_type a3 hv
    rw [hb] at hc
    injection hc with hc
    injection hc with _ h2 _
    exact ht h2
  · rw [List.mem_flatMap] at hbF
    obtain ⟨p, hp, hbp⟩ := hbF
    obtain ⟨i, hi, rfl⟩ := List.getElem_of_mem hp
    obtain ⟨u', h1, h2, h3⟩ := a7 i es[i] (X[i]'(by omega)) (List.getElem?_eq_getElem hi) (List.getElem?_eq_getElem (by omega))
    have hv : u'.ownBlock = some b := by
      rw [h3] at hbp
      cases ho : u'.ownBlock with
      | none => rw [ho] at hbp; simp at hbp
      | some z => rw [ho] at hbp; simp at hbp; rw [hbp]
    obtain ⟨cur, hc⟩ := own_type h2 hv
    rw [hb] at hc
    injection hc with hc
    injection hc with _ h2 _
    exact ht2 h2
/-- A region that does not panic asks nothing of what a panic would have to show. -/
theorem region_calm {P : Program} {c : Code} {K : Act → World → Prop} {Q : Exit → Act → World → Prop} {a : Act} {w : World} (h : Code.wp P c (Exit.then K (fun _ _ _ => False)) a w) : Code.wp P c (Exit.then K Q) a w :=
  Code.wp_mono (fun e a w h => by cases e <;> first | exact h | exact h.elim) h
/-- A drawn region that does not panic, whose every order comes to I: the rest is walked once. -/
theorem region_via {P : Program} {c : Code} {K : Act → World → Prop} {Q : Exit → Act → World → Prop} {a : Act} {w : World} (I : Act → World → Prop) (h : Code.wp P c (Exit.then I (fun _ _ _ => False)) a w) (hk : ∀ a w, I a w → K a w) : Code.wp P c (Exit.then K Q) a w :=
  Code.wp_mono (fun e a w h => by cases e <;> first | exact hk _ _ h | exact h.elim) h
/-- Appending one list to a list of lists of whatever named type, as a step of a region. -/
theorem step_appT {w : World} {ops : Array Oper} {o : Oper} {a : Act} {Q : Exit → Act → World → Prop} {K : Act → World → Prop} {E : Prop} (t : TypeId) (ht : Tryd.prog.underlying t = some (.slice 25)) (hgd : o.guard = none) (s y : Operand) (ho : o.op = .call { callee := .builtin .append, args := #[s, y], argTypes := #[t, t] })
    {L M lo hi B c : Nat} {v u : Value} {X : List (List Int)} {x : List Int} {ad : Addr} (hs : a.eval s = v) (hy : a.eval y = .slice (some ad) 1 c) (h : OwnSS w L M v X) (hx : Row w lo hi 3 u (ivs x)) (hr : Rd w B (some ad) [u]) (hd : M ≤ lo) (hLM : L ≤ M) (hn : X.length + 1 ≤ 1099511627777) (hL : L ≤ w.heap.size)
    (hK : ∀ v' w', OwnSS w' L w'.heap.size v' (X ++ [x]) → Below L w w' → (∀ b, b < w.heap.size → v.ownBlock ≠ some b → w'.heap[b]? = w.heap[b]?) → K (a.put o.dst v') w') : if Region.wanted o (yielded ops a.tmps) = true then Oper.wp Tryd.prog o a w K Q else E := by
  obtain ⟨i0, hi0, hz0, hz1, hz2⟩ := info_parts IntSS_info
  obtain ⟨F, k1, k2, k3⟩ := Row.owns hx
  obtain ⟨v', w', hrun, h2, h3⟩ := run_appR (P := Tryd.prog) (R := IntsR .i64 3) (e := 25) (size := 1) (x := x) (us := [u]) (M' := hi) (c := c) (IntsR.frames _ _) t o.type i0 _ 24 ht hi0 hz0 hz1 hz2 rfl (by omega) h ⟨F, k1, k2, fun b hb => ⟨by have := (k3 b hb).1; omega, (k3 b hb).2⟩⟩ rfl hr (by simp [row_cell hx]) hLM (by unfold maxLen; omega) (by omega) hL
  obtain ⟨F, ⟨v0, es, a1, a2, a3, _⟩, _, _⟩ := h
  have hvv : v = v0 := by simpa using a1
  subst hvv
  have hcells : ∀ (j : Nat) u', ([u] : List Value)[j]? = some u' → w.cell? (ad.add j) = some u' := fun j u' hu => by
    obtain ⟨ad', e1, _, hc⟩ := hr j u' hu
    injection e1 with e1
    subst e1
    exact hc
  obtain ⟨v2, w2, hrun2, _, b2, _, b4⟩ := run_append_own_at (P := Tryd.prog) w 0 t o.type 25 i0 _ 1 24 ht hi0 hz0 hz1 hz2 rfl (by omega) v X.length _ a3 ad 1 c [u] (by simp) hcells (by simp [row_cell hx]) (by unfold maxLen; omega) (by omega) (Nat.zero_le _)
  rw [hrun] at hrun2
  injection hrun2 with e1 e2
  subst e1
  subst e2
  have hw : Region.wanted o (yielded ops a.tmps) = true := by simp [Region.wanted, hgd]
  rw [if_pos hw]
  unfold Oper.wp
  simp [execOp, ho, resolve, invoke, builtin, hs, hy, hrun, Result.andThen]
  exact hK v' w' h2 h3 (fun b hb hv => b2.block b hb (fun e => hv e.symm))
/-- All blocks but p and the row's own are as they were. -/
structure Ex (p : Nat) (v : Value) (w w' : World) : Prop where
  os : w'.os = w.os
  tape : w'.tape = w.tape
  output : w'.output = w.output
  size : w.heap.size ≤ w'.heap.size
  block : ∀ b, b < w.heap.size → b ≠ p → v.ownBlock ≠ some b → w'.heap[b]? = w.heap[b]?
end Go.Proofs.YtignchefkihdaaaDoor
