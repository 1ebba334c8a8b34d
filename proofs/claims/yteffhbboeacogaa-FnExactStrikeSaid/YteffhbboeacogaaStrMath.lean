/- The mathematics of Strike (chapter 24): what is left of a list of different numbers when others are struck. No conditions. -/
import Derived.Test.YteffhbboeacogaaBase
namespace Go.Proofs.Yteffhbboeacogaa
theorem split_at {R : List Int} {p : Nat} (hp : p < R.length) : R = R.take p ++ R[p] :: R.drop (p + 1) := by
  rw [← List.drop_eq_getElem_cons hp, List.take_append_drop]
theorem del_eq {R : List Int} (hnd : R.Nodup) {p : Nat} (hp : p < R.length) : R.take p ++ R.drop (p + 1) = R.filter (fun x => x != R[p]) := by
  have e := split_at hp
  generalize hm : R[p] = m at e ⊢
  generalize ha : R.take p = a at e ⊢
  generalize hb : R.drop (p + 1) = b at e ⊢
  have hnd' : (a ++ m :: b).Nodup := e ▸ hnd
  unfold List.Nodup at hnd'
  rw [List.pairwise_append, List.pairwise_cons] at hnd'
  obtain ⟨_, ⟨h1, _⟩, h2⟩ := hnd'
  clear hm ha hb
  subst e
  rw [List.filter_append, List.filter_cons]
  have e1 : (m != m) = false := by simp
  have e2 : a.filter (fun x => x != m) = a := List.filter_eq_self.2 fun x hx => by
    have := h2 x hx m (by simp)
    simpa using this
  have e3 : b.filter (fun x => x != m) = b := List.filter_eq_self.2 fun x hx => by
    have := h1 x hx
    simpa using fun e => this e.symm
  rw [e2, e3, e1]
  rfl
/-- What is left of L when W is struck. -/
def lftW (L W : List Int) : List Int := L.filter fun x => !W.contains x
theorem lft_nil (L : List Int) : lftW L [] = L := List.filter_eq_self.2 fun x _ => by simp
theorem lft_nd {L W : List Int} (h : L.Nodup) : (lftW L W).Nodup := by
  unfold lftW List.Nodup
  exact List.Pairwise.filter _ h
theorem lft_snoc (L W : List Int) (m : Int) : lftW L (W ++ [m]) = (lftW L W).filter (fun x => x != m) := by
  unfold lftW
  rw [List.filter_filter]
  congr 1
  funext x
  by_cases h : x = m
  · subst h; simp
  · simp [h]
theorem lft_mem {L W : List Int} {m : Int} : m ∈ lftW L W ↔ m ∈ L ∧ m ∉ W := by
  unfold lftW
  rw [List.mem_filter]
  simp
theorem lft_del {L W : List Int} (h : L.Nodup) {p : Nat} (hp : p < (lftW L W).length) : (lftW L W).take p ++ (lftW L W).drop (p + 1) = lftW L (W ++ [(lftW L W)[p]]) := by
  rw [del_eq (lft_nd h) hp, lft_snoc]
theorem lft_step {L W : List Int} (h : L.Nodup) {m : Int} (hm : m ∈ lftW L W) : (lftW L (W ++ [m])).length + 1 = (lftW L W).length := by
  obtain ⟨p, hp, rfl⟩ := List.getElem_of_mem hm
  rw [← lft_del h hp, List.length_append, List.length_take, List.length_drop]
  omega
theorem lft_len {L W : List Int} (h : L.Nodup) (hw : W.Nodup) (hs : ∀ m ∈ W, m ∈ L) : ∀ k, k ≤ W.length → (lftW L (W.take k)).length + k = L.length
  | 0, _ => by rw [List.take_zero, lft_nil]; rfl
  | k + 1, hk => by
    have ih := lft_len h hw hs k (by omega)
    have hk' : k < W.length := by omega
    rw [List.take_succ_eq_append_getElem hk']
    have hnot : W[k] ∉ W.take k := fun hm => by
      obtain ⟨i, hi, he⟩ := List.getElem_of_mem hm
      rw [List.length_take] at hi
      rw [List.getElem_take] at he
      exact (List.pairwise_iff_getElem.1 hw i k (by omega) hk' (by omega)) he
    have := lft_step (W := W.take k) h (lft_mem.2 ⟨hs _ (List.getElem_mem hk'), hnot⟩)
    omega
/-- One more is different from all before it. -/
theorem nd_step {L : List Int} {k : Nat} (hk : k < L.length) (h : (L.take k).Nodup) (hc : (L.take k).contains L[k] = false) : (L.take (k + 1)).Nodup := by
  rw [List.take_succ_eq_append_getElem hk]
  unfold List.Nodup at *
  rw [List.pairwise_append]
  refine ⟨h, by simp, fun a ha b hb => ?_⟩
  rw [List.mem_singleton.1 hb]
  intro e
  subst e
  rw [List.contains_iff_mem.2 ha] at hc
  cases hc
theorem nd_no {L : List Int} {k : Nat} (hk : k < L.length) (hc : (L.take k).contains L[k] = true) : ¬ L.Nodup := fun h => by
  obtain ⟨i, hi, he⟩ := List.getElem_of_mem (List.contains_iff_mem.1 hc)
  rw [List.length_take] at hi
  rw [List.getElem_take] at he
  exact (List.pairwise_iff_getElem.1 h i k (by omega) hk (by omega)) he
def strB (L W : List Int) : Bool := decide (1 ≤ L.length ∧ L.length ≤ 9) && decide L.Nodup && decide (W.length + 1 = L.length) && decide W.Nodup && W.all (L.contains ·)
def strV (L W : List Int) : Int := if strB L W then (lftW L W).headD 0 else 0
theorem str_iff {L W : List Int} : strB L W = true ↔ (1 ≤ L.length ∧ L.length ≤ 9) ∧ L.Nodup ∧ W.length + 1 = L.length ∧ W.Nodup ∧ ∀ m ∈ W, m ∈ L := by
  unfold strB
  simp only [Bool.and_eq_true, decide_eq_true_eq, List.all_eq_true, List.contains_iff_mem]
  constructor
  · rintro ⟨⟨⟨⟨h1, h2⟩, h3⟩, h4⟩, h5⟩; exact ⟨h1, h2, h3, h4, h5⟩
  · rintro ⟨h1, h2, h3, h4, h5⟩; exact ⟨⟨⟨⟨h1, h2⟩, h3⟩, h4⟩, h5⟩
theorem str_no {L W : List Int} (h : ¬ ((1 ≤ L.length ∧ L.length ≤ 9) ∧ L.Nodup ∧ W.length + 1 = L.length ∧ W.Nodup ∧ ∀ m ∈ W, m ∈ L)) : strB L W = false ∧ strV L W = 0 := by
  have e : strB L W = false := by
    cases q : strB L W with
    | false => rfl
    | true => exact absurd (str_iff.1 q) h
  exact ⟨e, by unfold strV; rw [e]; rfl⟩
/-- At a good pair, one is left. -/
theorem str_one {L W : List Int} (h1 : 1 ≤ L.length ∧ L.length ≤ 9) (h2 : L.Nodup) (h3 : W.length + 1 = L.length) (h4 : W.Nodup) (h5 : ∀ m ∈ W, m ∈ L) : strB L W = true ∧ ∃ z, lftW L W = [z] ∧ strV L W = z := by
  have e : strB L W = true := str_iff.2 ⟨h1, h2, h3, h4, h5⟩
  have hl := lft_len h2 h4 h5 W.length (Nat.le_refl _)
  rw [List.take_of_length_le (Nat.le_refl _)] at hl
  have : (lftW L W).length = 1 := by omega
  match hq : lftW L W, this with
  | [z], _ => exact ⟨e, z, rfl, by unfold strV; rw [e, hq]; rfl⟩
theorem str_head {L W : List Int} {k : Nat} (hk : k < L.length) (h : ∀ x ∈ L.take k, W.contains x = true) (hc : W.contains L[k] = false) {z : Int} (hz : lftW L W = [z]) : z = L[k] := by
  have e := split_at hk
  have hm : L[k] ∈ lftW L W := lft_mem.2 ⟨List.getElem_mem hk, fun hm => by rw [List.contains_iff_mem.2 hm] at hc; cases hc⟩
  rw [hz] at hm
  exact (List.mem_singleton.1 hm).symm
theorem str_all {L W : List Int} (h : ∀ x ∈ L, W.contains x = true) {z : Int} (hz : lftW L W = [z]) : False := by
  have hm : z ∈ lftW L W := by rw [hz]; exact List.mem_singleton.2 rfl
  obtain ⟨h1, h2⟩ := lft_mem.1 hm
  exact h2 (List.contains_iff_mem.1 (h z h1))
end Go.Proofs.Yteffhbboeacogaa
