/- Maps from integers to integers that a call made, told by a function (f: what a key has) and the list of its keys. Conditions: keys and values of 64 bits. -/
import Derived.Test.YthkigilegnjglaaTeamR
import Derived.Maps.Own
import Derived.Maps.Views
import Derived.Maps.OwnSet
namespace Go.Proofs.Ythkigilegnjglaa
open Go.ChangeShapes Go.WideShapes Go.ChangeAt Go.RowKit
set_option maxRecDepth 100000
theorem im_law : Maps.Keyed Try.prog 3 := Maps.int_keyed Try.underlying3
theorem im_zero (w : World) : (zeroValue 3).run Try.prog w = .ok (.int .i64 0) w := by kernel_rfl
theorem i6_wf {a : Int} (h : I6 a) : (Lit.int .i64 a).wf = true := by
  unfold I6 at h
  simp only [Lit.wf, Bool.and_eq_true, decide_eq_true_eq]
  exact h
theorem i6_of {a : Int} (h : (Lit.int .i64 a).wf = true) : I6 a := by simpa [Lit.wf, I6] using h
theorem i6_key {a : Int} (h : I6 a) : keyOf Try.prog 3 (.int .i64 a) = some (.int .i64 a) := Maps.keyOf_int_mk Try.underlying3 (i6_wf h)
theorem i6_small {a : Int} (h1 : -9000000000000000000 ≤ a) (h2 : a ≤ 9000000000000000000) : I6 a := by
  unfold I6
  have e1 : IntKind.i64.min = -9223372036854775808 := rfl
  have e2 : IntKind.i64.max = 9223372036854775807 := rfl
  omega
/-- Block B is a map with at most n entries, the keys K; key a has f a. -/
def IM (f : Int → Option Int) (K : List Int) (B n : Nat) (w : World) : Prop := ∃ D : DataW Unit, w.ownsMap Try.prog 3 (plainElem (H := Unit) Try.prog 3) B n D ∧ Maps.Tidy D ∧ (∀ a, D.atKey (.int .i64 a) (.lit (.int .i64 0)) = .lit (.int .i64 ((f a).getD 0))) ∧ (∀ a, Maps.has D (.int .i64 a) = (f a).isSome) ∧ Maps.size D = K.length ∧ K.Nodup ∧ (∀ a, a ∈ K ↔ (f a).isSome = true)
def putF (f : Int → Option Int) (a v : Int) : Int → Option Int := fun b => if b = a then some v else f b
def delF (f : Int → Option Int) (a : Int) : Int → Option Int := fun b => if b = a then none else f b
def putK (f : Int → Option Int) (K : List Int) (a : Int) : List Int := if (f a).isSome then K else K ++ [a]
section
variable {f : Int → Option Int} {K : List Int} {B n : Nat} {w w' : World} {a v : Int} {t : TypeId}
theorem IM.lt (h : IM f K B n w) : B < w.heap.size := by
  obtain ⟨D, ho, _⟩ := h
  exact ho.lt
theorem IM.kept (h : IM f K B n w) (hb : w'.heap[B]? = w.heap[B]?) : IM f K B n w' := by
  obtain ⟨D, ⟨es, clock, h1, h2⟩, h3⟩ := h
  exact ⟨D, ⟨es, clock, hb.trans h1, h2⟩, h3⟩
theorem IM.new (h : IM f K B n w) (hb : Below w.heap.size w w') : IM f K B n w' := h.kept (hb.block B h.lt)
theorem IM.out {lo hi : Nat} (h : IM f K B n w) (o : Out lo hi w w') (hd : B < lo ∨ hi ≤ B) : IM f K B n w' := h.kept (o.block B h.lt hd)
theorem IM.more {n' : Nat} (h : IM f K B n w) (hn : n ≤ n') : IM f K B n' w := by
  obtain ⟨D, ho, h2⟩ := h
  exact ⟨D, ho.mono hn, h2⟩
theorem IM.made (w : World) : IM (fun _ => none) [] w.heap.size 0 (w.alloc (.map #[] 0)) := ⟨.map [], World.ownsMap_made w _ _ _, Maps.tidy_empty, fun _ => rfl, fun _ => rfl, rfl, List.nodup_nil, by simp⟩
theorem IM.size (h : IM f K B n w) (ht : Try.prog.underlying t = some (.map 3 3)) (ty : TypeId) : (Builtin.len_ #[t] ty #[.map (some B)]).run Try.prog w = .ok (.int .i64 (K.length : Nat)) w := by
  obtain ⟨D, ⟨es, clock, hb, _, _, hD⟩, _, _, _, h1, _⟩ := h
  have e : Maps.size D = es.size := by
    rw [hD, Maps.size_eq, length_sorted]
    simp
  rw [e] at h1
  rw [← h1]
  simp [Builtin.len_, run_underlying ht, MapKept.run_getObj_map hb, goInt]
theorem IM.get (h : IM f K B n w) (ht : Try.prog.underlying t = some (.map 3 3)) (ha : I6 a) : (Instr.lookup t (.map (some B)) (.int .i64 a) false).run Try.prog w = .ok (.int .i64 ((f a).getD 0)) w := by
  obtain ⟨D, ho, hm, hat, _⟩ := h
  obtain ⟨u, ps, hrun, hv⟩ := ho.lookup im_law ht (im_zero w) (plainElem_int Try.underlying3 (by decide)) (i6_key ha)
  rw [hat a] at hv
  rw [hrun]
  obtain ⟨x, rfl, hx, _⟩ := plainElem_int_inv Try.underlying3 hv
  simp at hx
  rw [hx.1]
theorem IM.put (h : IM f K B n w) (ht : Try.prog.underlying t = some (.map 3 3)) (hn : n < 1099511627776) (ha : I6 a) (hv : I6 v) :
    ∃ w', (Instr.mapUpdate t (.map (some B)) (.int .i64 a) (.int .i64 v)).run Try.prog w = .ok () w' ∧ IM (putF f a v) (putK f K a) B (n + 1) w' ∧ Out B (B + 1) w w' := by
  obtain ⟨D, ho, htd, hat, hhas, hsz, hnd, hk⟩ := h
  have hm := htd.isMap
  have hkl : WideAt.IsKeyLit (.int .i64 a) := trivial
  obtain ⟨w', hrun, ho', hg⟩ := ho.update im_law ht (by unfold maxLen; omega) (i6_key ha) (plainElem_int Try.underlying3 (i6_wf hv))
  refine ⟨w', hrun, ⟨_, ho', htd.put hkl _, fun b => ?_, fun b => ?_, ?_, ?_, fun b => ?_⟩, ⟨hg.os, hg.tape, hg.output, hg.size, fun k hk hd => hg.block k hk (by simp; omega)⟩⟩
  · unfold putF
    by_cases e : b = a
    · subst e
      rw [Maps.atKey_put_same hm (show WideAt.IsKeyLit (.int .i64 b) from trivial)]
      simp
    · rw [Maps.atKey_put_other (by simpa using e), hat b, if_neg e]
  · unfold putF
    by_cases e : b = a
    · subst e
      rw [Maps.has_put_same hm hkl]
      simp
    · rw [Maps.has_put_other (by simpa using e), hhas b, if_neg e]
  · rw [Maps.size_put htd, hhas a]
    unfold putK
    split <;> simp_all
  · unfold putK
    split
    · exact hnd
    · rename_i hc
      exact List.nodup_append.2 ⟨hnd, by simp, fun x hx y hy e => by
        have : y = a := by simpa using hy
        subst this
        subst e
        exact hc ((hk x).1 hx)⟩
  · unfold putK putF
    by_cases e : b = a
    · subst e
      simp only [if_true, Option.isSome_some, iff_true]
      split
      · rename_i hc
        exact (hk b).2 hc
      · simp
    · rw [if_neg e]
      split
      · exact hk b
      · simp only [List.mem_append, List.mem_singleton, e, or_false]
        exact hk b
theorem IM.ok (h : IM f K B n w) (ht : Try.prog.underlying t = some (.map 3 3)) (ha : I6 a) : (Instr.lookup t (.map (some B)) (.int .i64 a) true).run Try.prog w = .ok (.tuple #[.int .i64 ((f a).getD 0), .bool (f a).isSome]) w := by
  obtain ⟨D, ho, hm, hat, hhas, _⟩ := h
  obtain ⟨u, ps, hrun, hv⟩ := ho.look_ok im_law ht (im_zero w) (plainElem_int Try.underlying3 (by decide)) (i6_key ha)
  rw [hat a] at hv
  rw [hrun, hhas a]
  obtain ⟨x, rfl, hx, _⟩ := plainElem_int_inv Try.underlying3 hv
  simp at hx
  rw [hx.1]
def delK (K : List Int) (a : Int) : List Int := K.filter fun b => decide (b ≠ a)
theorem IM.del (h : IM f K B n w) (ht : Try.prog.underlying t = some (.map 3 3)) (ha : I6 a) (ty : TypeId) :
    ∃ w', (Builtin.delete_ #[t, 3] ty #[.map (some B), .int .i64 a]).run Try.prog w = .ok (.tuple #[]) w' ∧ IM (delF f a) (delK K a) B n w' ∧ Out B (B + 1) w w' := by
  obtain ⟨D, ho, htd, hat, hhas, hsz, hnd, hk⟩ := h
  obtain ⟨w', hrun, ho', hg⟩ := ho.drop im_law ht (i6_key ha) ty
  refine ⟨w', hrun, ⟨_, ho', htd.del _, fun b => ?_, fun b => ?_, ?_, ?_, fun b => ?_⟩, ⟨hg.grown.os, hg.grown.tape, hg.grown.output, hg.grown.size, fun k hk hd => hg.grown.block k hk (by simp; omega)⟩⟩
  · unfold delF
    by_cases e : b = a
    · subst e
      rw [Maps.atKey_del_same]
      simp
    · rw [Maps.atKey_del_other (by simpa using e), hat b, if_neg e]
  · unfold delF
    by_cases e : b = a
    · subst e
      rw [Maps.has_del_same]
      simp
    · rw [Maps.has_del_other (by simpa using e), hhas b, if_neg e]
  · have h1 := Maps.size_del (k := .int .i64 a) htd
    rw [hhas a] at h1
    have h2 : (delK K a).length + (if (f a).isSome then 1 else 0) = K.length := by
      unfold delK
      by_cases hc : a ∈ K
      · rw [if_pos ((hk a).1 hc)]
        have := hnd.erase_eq_filter a
        rw [show K.filter (fun b => decide (b ≠ a)) = K.erase a by rw [this]; congr 1; funext b; by_cases e : b = a <;> simp [e]]
        rw [List.length_erase_of_mem hc]
        have := List.length_pos_of_mem hc
        omega
      · rw [if_neg (fun h => hc ((hk a).2 h))]
        rw [List.filter_eq_self.2 (fun b hb => by simp; rintro rfl; exact hc hb)]
        rfl
    omega
  · exact hnd.filter _
  · unfold delK delF
    rw [List.mem_filter]
    by_cases e : b = a
    · subst e
      simp
    · rw [if_neg e]
      simp [e, hk b]
end
end Go.Proofs.Ythkigilegnjglaa
