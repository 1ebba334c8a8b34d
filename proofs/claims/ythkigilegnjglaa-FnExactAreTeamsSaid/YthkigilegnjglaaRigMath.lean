/- Sums of chapter 15, without code: who speaks last of each side. -/
import Derived.Test.YthkigilegnjglaaOrdMath
namespace Go.Proofs.Ythkigilegnjglaa
/-- The last of o of whom it is b that they are one of a. -/
def lstB (o a : List Int) (b : Bool) : Option Int := o.reverse.find? fun x => a.contains x == b
/-- Nobody from place k on is such a one. -/
def noB (o a : List Int) (b : Bool) (k : Nat) : Prop := ∀ j, k ≤ j → j < o.length → a.contains (o.getD j 0) ≠ b
theorem lst_none {o a : List Int} {b : Bool} (h : noB o a b 0) : lstB o a b = none := by
  unfold lstB
  rw [List.find?_eq_none]
  intro x hx
  rw [List.mem_reverse] at hx
  obtain ⟨j, hj, rfl⟩ := List.getElem_of_mem hx
  have := h j (Nat.zero_le _) hj
  rw [show o.getD j 0 = o[j] by simp [List.getD, hj]] at this
  simpa using this
theorem lst_some {o a : List Int} {b : Bool} {k : Nat} (hk : k < o.length) (h : noB o a b (k + 1)) (hx : a.contains o[k] = b) : lstB o a b = some o[k] := by
  unfold lstB
  have e : o = o.take k ++ ([o[k]] ++ o.drop (k + 1)) := by
    conv => lhs; rw [← List.take_append_drop k o, List.drop_eq_getElem_cons hk]
    simp
  have hn : (o.drop (k + 1)).reverse.find? (fun x => a.contains x == b) = none := by
    rw [List.find?_eq_none]
    intro x hx
    rw [List.mem_reverse] at hx
    obtain ⟨j, hj, rfl⟩ := List.getElem_of_mem hx
    rw [List.length_drop] at hj
    have := h (k + 1 + j) (by omega) (by omega)
    rw [show o.getD (k + 1 + j) 0 = o[k + 1 + j]'(by omega) by simp [List.getD, show k + 1 + j < o.length by omega]] at this
    rw [List.getElem_drop]
    simpa using this
  conv => lhs; rw [e]
  rw [List.reverse_append, List.reverse_append, List.find?_append, List.find?_append, hn]
  rw [show [o[k]].reverse = [o[k]] from rfl, List.find?_cons, hx]
  simp
theorem noB_len (o a : List Int) (b : Bool) : noB o a b o.length := fun j h1 h2 => absurd h2 (by omega)
theorem noB_dec {o a : List Int} {b : Bool} {k : Nat} (hk : k < o.length) (h : noB o a b (k + 1)) (hx : a.contains o[k] ≠ b) : noB o a b k := fun j h1 h2 => by
  by_cases e : j = k
  · subst e
    rw [show o.getD j 0 = o[j] by simp [List.getD, hk]]
    exact hx
  · exact h j (by omega) h2
/-- The replies after q of the two passes. -/
def rgP (o a : List Int) : Nat → List Int
  | 0 => []
  | q + 1 => rgP o a q ++ (lstB o a (q == 1)).toList
theorem rgP_len (o a : List Int) : ∀ q, (rgP o a q).length ≤ q
  | 0 => Nat.le_refl _
  | q + 1 => by
    have := rgP_len o a q
    unfold rgP
    rw [List.length_append]
    cases lstB o a (q == 1) <;> simp <;> omega
theorem rgP_rig (o a : List Int) : rgP o a 2 = rigL o a := by
  unfold rgP rgP rgP rigL lstB
  rw [List.nil_append]
  have e1 : (fun x => a.contains x == (0 == 1)) = fun x => !(a.contains x) := by funext x; cases a.contains x <;> rfl
  have e2 : (fun x => a.contains x == (1 == 1)) = fun x => a.contains x := by funext x; cases a.contains x <;> rfl
  rw [show ((0 : Nat) == 1) = (0 == 1) from rfl, e1, e2]
theorem rgP_none {o a : List Int} {q : Nat} (h : noB o a (q == 1) 0) : rgP o a (q + 1) = rgP o a q := by
  show rgP o a q ++ (lstB o a (q == 1)).toList = _
  rw [lst_none h]
  simp
theorem rgP_some {o a : List Int} {q k : Nat} (hk : k < o.length) (h : noB o a (q == 1) (k + 1)) (hx : a.contains o[k] = (q == 1)) : rgP o a (q + 1) = rgP o a q ++ [o[k]] := by
  show rgP o a q ++ (lstB o a (q == 1)).toList = _
  rw [lst_some hk h hx]
  rfl
end Go.Proofs.Ythkigilegnjglaa
