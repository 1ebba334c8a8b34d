/- Mathematics of rounds (irB): what the code's map has at the end is what the model counts (ir_end). No conditions. -/
import Derived.Test.YthkigilegnjglaaMm
import Derived.Test.YthkigilegnjglaaMg11
namespace Go.Proofs.Ythkigilegnjglaa
open Go.ChangeShapes Go.WideShapes Go.ChangeAt Go.RowKit
theorem pigL : ∀ (L l : List Int), L.Nodup → (∀ x ∈ L, x ∈ l) → L.length ≤ l.length ∧ (l.length = L.length → ∀ x ∈ l, x ∈ L)
  | [], l, _, _ => ⟨Nat.zero_le _, fun h x hx => by rw [List.length_eq_zero_iff.1 h] at hx; cases hx⟩
  | a :: L, l, hn, hs => by
    have ha : a ∈ l := hs a (by simp)
    rw [List.nodup_cons] at hn
    have hl : (l.erase a).length + 1 = l.length := by
      rw [List.length_erase_of_mem ha]
      have := List.length_pos_of_mem ha
      omega
    have h2 := pigL L (l.erase a) hn.2 (fun x hx => by
      have hne : x ≠ a := fun e => hn.1 (e ▸ hx)
      exact (List.mem_erase_of_ne hne).2 (hs x (List.mem_cons_of_mem _ hx)))
    refine ⟨by rw [List.length_cons]; omega, fun he x hx => ?_⟩
    by_cases hxa : x = a
    · rw [hxa]; simp
    · exact List.mem_cons_of_mem _ (h2.2 (by rw [List.length_cons] at he; omega) x ((List.mem_erase_of_ne hxa).2 hx))
def seL (R : List T2) : List Int := R.flatMap fun p => [p.1, p.2]
theorem seL_succ {R : List T2} {k : Nat} (h : k < R.length) : seL (R.take (k + 1)) = seL (R.take k) ++ [R[k].1, R[k].2] := by
  unfold seL
  rw [List.take_succ_eq_append_getElem h, List.flatMap_append]; simp
theorem seL_len {R : List T2} : (seL R).length = 2 * R.length := by
  unfold seL
  induction R with
  | nil => rfl
  | cons p R ih => rw [List.flatMap_cons, List.length_append, ih]; simp; omega
def unF (X : List Tm) (R : List T2) : Int → Option Int := fun a => if a ∈ seL R then none else fndO X a
def irAt (X : List Tm) (R : List T2) (k : Nat) : Bool := match R[k]? with
  | none => false
  | some p => mmB X p.1 p.2 && (!((seL (R.take k)).contains p.1) && !((seL (R.take k)).contains p.2))
def irB (X : List Tm) (R : List T2) : Bool := (List.range R.length).all (irAt X R) && (atB X && decide ((seL R).length = X.length))
theorem ir_at {X : List Tm} {R : List T2} {k : Nat} (h : k < R.length) : irAt X R k = (mmB X R[k].1 R[k].2 && (!((seL (R.take k)).contains R[k].1) && !((seL (R.take k)).contains R[k].2))) := by unfold irAt; rw [List.getElem?_eq_getElem h]
theorem ir_no {X : List Tm} {R : List T2} {k : Nat} (hk : k < R.length) (h : irAt X R k = false) : irB X R = false := by
  unfold irB
  have : (List.range R.length).all (irAt X R) = false := by rw [List.all_eq_false]; exact ⟨k, List.mem_range.2 hk, by simp [h]⟩
  rw [this, Bool.false_and]
theorem ir_snoc {X : List Tm} {R : List T2} {k : Nat} (h : (List.range k).all (irAt X R) = true) (h2 : irAt X R k = true) : (List.range (k + 1)).all (irAt X R) = true := by
  rw [List.range_succ, List.all_append, h, List.all_cons, h2]
  rfl
theorem ir_all {X : List Tm} {R : List T2} {n : Nat} (hl : R.length = n) (h : (List.range n).all (irAt X R) = true) : irB X R = (atB X && decide ((seL R).length = X.length)) := by
  unfold irB
  rw [hl, h, Bool.true_and]
theorem unF_nil (X : List Tm) : unF X [] = fndO X := by funext a; unfold unF seL; simp
theorem unF_step {X : List Tm} {R : List T2} {k : Nat} (h : k < R.length) : delF (delF (unF X (R.take k)) R[k].1) R[k].2 = unF X (R.take (k + 1)) := by
  funext a
  unfold unF delF
  rw [seL_succ h]
  by_cases h1 : a = R[k].2
  · rw [if_pos h1, if_pos (by rw [h1]; simp)]
  · rw [if_neg h1]
    by_cases h2 : a = R[k].1
    · rw [if_pos h2, if_pos (by rw [h2]; simp)]
    · rw [if_neg h2]
      show (if a ∈ seL (R.take k) then none else fndO X a) = _
      by_cases h3 : a ∈ seL (R.take k)
      · rw [if_pos h3, if_pos (List.mem_append_left _ h3)]
      · rw [if_neg h3, if_neg]
        intro hm
        rcases List.mem_append.1 hm with hm | hm
        · exact h3 hm
        · simp [h1, h2] at hm
theorem mm_parts {X : List Tm} {a b : Int} (h : mmB X a b = true) : atB X = true ∧ a ≠ b ∧ (fndO X a).isSome = true ∧ (fndO X b).isSome = true := by
  have h1 : twB X a b = true := by
    unfold mmB at h
    exact (Bool.and_eq_true_iff.1 h).1
  obtain ⟨hT, i, j, hi, hj, x, y, hx, hy, _, _⟩ := tw_parts h1
  refine ⟨hT, fun e => ?_, by rw [hi]; rfl, by rw [hj]; rfl⟩
  subst e
  rw [mm_yes h1 hi hj hx hy] at h
  rw [hi] at hj
  have : i = j := by injection hj with hj; omega
  subst this
  rw [hx] at hy
  injection hy with hy
  subst hy
  unfold canT at h
  simp at h
theorem fnd_isSome {X : List Tm} {a : Int} : (fndO X a).isSome = true ↔ a ∈ X.map Tm.id := by
  constructor
  · intro h
    cases hf : fndO X a with
    | none => rw [hf] at h; cases h
    | some v =>
      obtain ⟨i, _, hi, he, _⟩ := fndO_some hf
      rw [← he]
      exact List.mem_map_of_mem (List.getElem_mem hi)
  · intro h
    cases hf : fndO X a with
    | none =>
      obtain ⟨x, hx, he⟩ := List.mem_map.1 h
      exact absurd he (fndO_none hf x hx)
    | some v => rfl
theorem ir_ok {X : List Tm} {R : List T2} : ∀ {k : Nat}, k ≤ R.length → (List.range k).all (irAt X R) = true → (seL (R.take k)).Nodup ∧ ∀ a ∈ seL (R.take k), a ∈ X.map Tm.id
  | 0, _, _ => by simp [seL]
  | k + 1, hk, h => by
    have hk' : k < R.length := by omega
    rw [List.range_succ, List.all_append, Bool.and_eq_true] at h
    obtain ⟨h1, h2⟩ := ir_ok (by omega) h.1
    have h3 : irAt X R k = true := by simpa using h.2
    rw [ir_at hk', Bool.and_eq_true, Bool.and_eq_true] at h3
    obtain ⟨m1, m2, m3⟩ := h3
    obtain ⟨_, e1, e2, e3⟩ := mm_parts m1
    have n1 : R[k].1 ∉ seL (R.take k) := by simpa using m2
    have n2 : R[k].2 ∉ seL (R.take k) := by simpa using m3
    rw [seL_succ hk']
    refine ⟨List.nodup_append.2 ⟨h1, by simp [e1], fun a ha b hb e => ?_⟩, fun a ha => ?_⟩
    · subst e
      rcases List.mem_cons.1 hb with rfl | hb
      · exact n1 ha
      · have : a = R[k].2 := by simpa using hb
        subst this
        exact n2 ha
    · rcases List.mem_append.1 ha with ha | ha
      · exact h2 a ha
      · rcases List.mem_cons.1 ha with rfl | ha
        · exact fnd_isSome.1 e2
        · have : a = R[k].2 := by simpa using ha
          subst this
          exact fnd_isSome.1 e3
theorem ir_end {X : List Tm} {R : List T2} {K : List Int} (h : (List.range R.length).all (irAt X R) = true) (hK : ∀ a, a ∈ K ↔ (unF X R a).isSome = true) : decide (K.length = 0) = irB X R := by
  rw [ir_all rfl h]
  have hk := ir_ok (X := X) (R := R) (Nat.le_refl _) h
  rw [List.take_length] at hk
  have hKe : K.length = 0 ↔ ∀ a ∈ X.map Tm.id, a ∈ seL R := by
    rw [List.length_eq_zero_iff]
    constructor
    · intro e a ha
      by_cases hs : a ∈ seL R
      · exact hs
      · exfalso
        have : a ∈ K := (hK a).2 (by unfold unF; rw [if_neg hs]; exact fnd_isSome.2 ha)
        rw [e] at this
        cases this
    · intro hall
      cases hK0 : K with
      | nil => rfl
      | cons a l =>
        exfalso
        have h1 := (hK a).1 (by rw [hK0]; simp)
        unfold unF at h1
        by_cases hs : a ∈ seL R
        · rw [if_pos hs] at h1; cases h1
        · rw [if_neg hs] at h1
          exact hs (hall a (fnd_isSome.1 h1))
  cases hR : R with
  | nil =>
    have hs0 : seL ([] : List T2) = [] := rfl
    rw [hR, hs0] at hKe
    rw [hs0]
    cases X with
    | nil => rw [decide_eq_true (hKe.2 (by simp))]; rfl
    | cons x X =>
      rw [decide_eq_false (fun e => by have := hKe.1 e x.id (by simp); cases this)]
      rw [decide_eq_false (by simp), Bool.and_false]
  | cons p R' =>
    have hT : atB X = true := by
      have h0 : irAt X R 0 = true := List.all_eq_true.1 h 0 (List.mem_range.2 (by rw [hR]; simp))
      rw [ir_at (by rw [hR]; simp), Bool.and_eq_true] at h0
      exact (mm_parts h0.1).1
    rw [← hR, hT, Bool.true_and]
    have hnd := asc_nodup (te_asc hT)
    have hle := pigL (seL R) (X.map Tm.id) hk.1 hk.2
    rw [List.length_map] at hle
    refine decide_eq_decide.2 (hKe.trans ⟨fun hall => ?_, fun e => hle.2 e.symm⟩)
    have := pigL (X.map Tm.id) (seL R) hnd hall
    rw [List.length_map] at this
    omega
theorem ir_1 {X : List Tm} {R : List T2} {k : Nat} {p : T2} (h : irAt X R k = (mmB X p.1 p.2 && (!((seL (R.take k)).contains p.1) && !((seL (R.take k)).contains p.2)))) (h2 : (unF X (R.take k) p.1).isSome = false) : irAt X R k = false := by
  rw [h]
  cases hm : mmB X p.1 p.2 with
  | false => rfl
  | true =>
    obtain ⟨_, _, e1, e2⟩ := mm_parts hm
    unfold unF at h2
    by_cases hs : p.1 ∈ seL (R.take k)
    · simp [hs]
    · rw [if_neg hs, e1] at h2; cases h2
theorem ir_2 {X : List Tm} {R : List T2} {k : Nat} {p : T2} (h : irAt X R k = (mmB X p.1 p.2 && (!((seL (R.take k)).contains p.1) && !((seL (R.take k)).contains p.2)))) (h2 : (unF X (R.take k) p.2).isSome = false) : irAt X R k = false := by
  rw [h]
  cases hm : mmB X p.1 p.2 with
  | false => rfl
  | true =>
    obtain ⟨_, _, e1, e2⟩ := mm_parts hm
    unfold unF at h2
    by_cases hs : p.2 ∈ seL (R.take k)
    · simp [hs]
    · rw [if_neg hs, e2] at h2; cases h2
theorem unF_some {X : List Tm} {R : List T2} {a : Int} (h : (unF X R a).isSome = true) : (seL R).contains a = false := by
  unfold unF at h
  by_cases hs : a ∈ seL R
  · rw [if_pos hs] at h; cases h
  · simpa using hs
end Go.Proofs.Ythkigilegnjglaa
