/- One law of append onto a slice that is only read and has no room: a new row is made. No conditions but the machine's bound on bytes. -/
import Derived.Test.YtignchefkihdaaaDoorMg2
import Derived.Deep.AppendSrc
import Derived.Deep.DeepAppendWide
namespace Go.Proofs.YtignchefkihdaaaDoor
open Go.ChangeShapes Go.WideShapes Go.ChangeAt Go.RowKit
section
variable {P : Program} {w : World}
theorem run_app_full (t ty e : TypeId) (i : TypeInfo) (z : Value) (bytes : Nat) (ht : P.underlying t = some (.slice e)) (hi : P.info? e = some i) (hz : i.zero = some z) (hsize : i.size = 1) (hby : i.bytes = bytes) (hzs : z.cells.size = 1)
    {B B' n m c : Nat} {xs news : List Value} {A : Option Addr} {ad : Addr} (hxs : xs.length = n) (hx : Rd w B A xs) (hm : news.length = m) (h0 : 0 < m) (hr : Rd w B' (some ad) news) (h1 : ∀ u ∈ news, u.oneCell' = true)
    (h63 : n + m ≤ maxLen) (hbytes : (n + m + (n + m) / 4 + 192) * bytes ≤ 281474976710656) :
    ∃ v' w', (Builtin.append_ #[t, t] ty #[.slice A n n, .slice (some ad) m c]).run P w = .ok v' w' ∧ Row w' w.heap.size w'.heap.size e v' (xs ++ news) ∧ Below w.heap.size w w' := by
  have hsmall : ((n + m : Nat) : Int) ≤ 9223372036854775807 := by simp only [maxLen] at h63; omega
  have hsrc : Src P i.size t (.slice (some ad) m c) m news w := Src.ofSlice w ht ad m c news (by rw [hsize, hm, Nat.mul_one]) (fun j u hu => by
    obtain ⟨ad', e1, _, hc⟩ := hr j u hu
    injection e1 with e1
    subst e1
    exact hc) h1
  have hold : (Builtin.firstCells i.size n (.slice A n n)).run P w.drew = .ok xs.toArray w.drew := by
    cases A with
    | none =>
      have hn : xs = [] := by
        cases xs with
        | nil => rfl
        | cons u l => obtain ⟨ad, h, _⟩ := hx 0 u rfl; cases h
      subst hn
      exact run_firstCells_none w.drew _ _ _ _
    | some a =>
      refine run_firstCells_some w.drew _ _ a _ _ xs (by rw [hsize, hxs, Nat.mul_one]) (fun j u hu => ?_)
      obtain ⟨ad', e1, _, hc⟩ := hx j u hu
      injection e1 with e1
      subst e1
      exact hc
  have hrun := run_append_grow_src (P := P) w t t ty e i z ht hi hz A n n xs hold _ m news hsrc (by omega) hsmall (by rw [hby]; exact growslice_fits_wide (by omega) hbytes)
  have hge := grownCap_ge w (n + m) n e
  have hcm : grownCap w (n + m) n e ≤ maxLen := grownCap_le_maxLen w (n + m) n e h63
  have hlen : (xs ++ news).length = n + m := by rw [List.length_append, hxs, hm]
  refine ⟨_, _, hrun, Row.of_own (n := n + m) ⟨by rw [hlen, Nat.mul_one], .inr ⟨w.heap.size, _, _, rfl, Nat.le_refl _, heap_alloc_new w.drew _, hge, hcm, ?_, ?_⟩⟩, ?_⟩
  · simp only [Array.size_append, List.size_toArray, size_zeroCells, hzs, hlen]
    omega
  · rw [Array.toList_append, Nat.mul_one, List.take_append_of_le_length (by simp [hxs, hm]), List.take_of_length_le (by simp [hxs, hm])]
  · exact (Below.refl _ _).drew.alloc (Nat.le_refl _) _
theorem wpList_app_full {ops : Array Oper} {rest : List Oper} {o : Oper} {a : Act} {Q : Exit → Act → World → Prop} (hgd : o.guard = none) (s x : Operand) (t : TypeId)
    (ho : o.op = .call { callee := .builtin .append, args := #[s, x], argTypes := #[t, t] })
    (e : TypeId) (i : TypeInfo) (z : Value) (bytes : Nat) (ht : P.underlying t = some (.slice e)) (hi : P.info? e = some i) (hz : i.zero = some z) (hsize : i.size = 1) (hby : i.bytes = bytes) (hzs : z.cells.size = 1)
    {B B' n m c : Nat} {xs news : List Value} {A : Option Addr} {ad : Addr} (hs : a.eval s = .slice A n n) (hx : a.eval x = .slice (some ad) m c) (hxs : xs.length = n) (hxr : Rd w B A xs) (hm : news.length = m) (h0 : 0 < m) (hr : Rd w B' (some ad) news) (h1 : ∀ u ∈ news, u.oneCell' = true)
    (h63 : n + m ≤ maxLen) (hbytes : (n + m + (n + m) / 4 + 192) * bytes ≤ 281474976710656)
    (K : ∀ v' w', Row w' w.heap.size w'.heap.size e v' (xs ++ news) → Below w.heap.size w w' → wpList P ops Q rest (a.put o.dst v') w') : wpList P ops Q (o :: rest) a w := by
  obtain ⟨v', w', hrun, h2, h3⟩ := run_app_full (P := P) t o.type e i z bytes ht hi hz hsize hby hzs (c := c) hxs hxr hm h0 hr h1 h63 hbytes
  refine wpList_plain hgd fun K' hK' => ?_
  unfold Oper.wp
  simp [execOp, ho, resolve, invoke, builtin, hs, hx, hrun, Result.andThen]
  exact hK' _ _ (K v' w' h2 h3)
end
end Go.Proofs.YtignchefkihdaaaDoor
