/- Mathematics of the map in which meetings wait (gE): the events E so far, what a pair has. No conditions. -/
import Derived.Test.YthkigilegnjglaaPmap
import Derived.Test.YthkigilegnjglaaMg8
namespace Go.Proofs.Ythkigilegnjglaa
open Go.ChangeShapes Go.WideShapes Go.ChangeAt Go.RowKit
def swP (e : Int × Int) : Int × Int := (e.2, e.1)
theorem swP_swP (e : Int × Int) : swP (swP e) = e := rfl
/-- How many more meetings of e than of the other way round. -/
def dE (E : List (Int × Int)) (e : Int × Int) : Int := (E.count e : Nat) - (E.count (swP e) : Nat)
theorem dE_sw (E : List (Int × Int)) (e : Int × Int) : dE E (swP e) = - dE E e := by unfold dE; rw [swP_swP]; omega
/-- What waits. -/
def gE (E : List (Int × Int)) (e : Int × Int) : Option Int := if 0 < dE E e then some (dE E e) else none
theorem gE_getD (E : List (Int × Int)) (e : Int × Int) : (gE E e).getD 0 = if 0 < dE E e then dE E e else 0 := by unfold gE; split <;> rfl
theorem gE_nil : gE [] = fun _ => none := by funext e; unfold gE dE; simp
theorem count_snoc (E : List (Int × Int)) (e x : Int × Int) : (E ++ [e]).count x = E.count x + if e = x then 1 else 0 := by
  rw [List.count_append, List.count_singleton]
  by_cases h : e = x <;> simp [h]
theorem dE_same {E : List (Int × Int)} {e : Int × Int} (h : e.1 ≠ e.2) : dE (E ++ [e]) e = dE E e + 1 := by
  have h2 : e ≠ swP e := fun q => h (congrArg Prod.fst q)
  unfold dE
  rw [count_snoc, count_snoc, if_pos rfl, if_neg h2]
  omega
theorem dE_swap {E : List (Int × Int)} {e : Int × Int} (h : e.1 ≠ e.2) : dE (E ++ [e]) (swP e) = dE E (swP e) - 1 := by
  rw [dE_sw, dE_same h, dE_sw]; omega
theorem dE_other {E : List (Int × Int)} {e x : Int × Int} (h1 : x ≠ e) (h2 : x ≠ swP e) : dE (E ++ [e]) x = dE E x := by
  have h3 : e ≠ swP x := fun q => h2 (by rw [q, swP_swP])
  unfold dE
  rw [count_snoc, count_snoc, if_neg (fun q => h1 q.symm), if_neg h3]
  omega
theorem gE_wait {E : List (Int × Int)} {e : Int × Int} (h : e.1 ≠ e.2) (h0 : (gE E (swP e)).getD 0 = 0) : gE (E ++ [e]) = ppF (gE E) e ((gE E e).getD 0 + 1) := by
  rw [gE_getD] at h0
  have hd : 0 ≤ dE E e := by rw [dE_sw] at h0; split at h0 <;> omega
  funext x
  unfold ppF
  by_cases e1 : x = e
  · subst e1
    rw [if_pos rfl, gE_getD]
    unfold gE
    rw [dE_same h, if_pos (by omega)]
    split <;> (congr 1 <;> omega)
  · rw [if_neg e1]
    by_cases e2 : x = swP e
    · subst e2
      unfold gE
      rw [dE_swap h, if_neg (by rw [dE_sw]; omega), if_neg (by rw [dE_sw]; omega)]
    · unfold gE
      rw [dE_other e1 e2]
theorem gE_one {E : List (Int × Int)} {e : Int × Int} (h : e.1 ≠ e.2) (h0 : (gE E (swP e)).getD 0 = 1) : gE (E ++ [e]) = pdF (gE E) (swP e) := by
  rw [gE_getD] at h0
  have hd : dE E (swP e) = 1 := by split at h0 <;> omega
  have hd2 : dE E e = -1 := by rw [dE_sw] at hd; omega
  funext x
  unfold pdF
  by_cases e2 : x = swP e
  · subst e2
    rw [if_pos rfl]
    unfold gE
    rw [dE_swap h, if_neg (by omega)]
  · rw [if_neg e2]
    by_cases e1 : x = e
    · subst e1
      unfold gE
      rw [dE_same h, if_neg (by omega), if_neg (by omega)]
    · unfold gE
      rw [dE_other e1 e2]
theorem gE_more {E : List (Int × Int)} {e : Int × Int} (h : e.1 ≠ e.2) (h0 : (gE E (swP e)).getD 0 ≠ 0) (h1 : (gE E (swP e)).getD 0 ≠ 1) : gE (E ++ [e]) = ppF (gE E) (swP e) ((gE E (swP e)).getD 0 - 1) := by
  rw [gE_getD] at h0 h1
  have hd : 1 < dE E (swP e) := by split at h0 <;> (split at h1 <;> omega)
  have hd2 : dE E e < -1 := by rw [dE_sw] at hd; omega
  funext x
  unfold ppF
  by_cases e2 : x = swP e
  · subst e2
    rw [if_pos rfl, gE_getD, if_pos (by omega)]
    unfold gE
    rw [dE_swap h, if_pos (by omega)]
  · rw [if_neg e2]
    by_cases e1 : x = e
    · subst e1
      unfold gE
      rw [dE_same h, if_neg (by omega), if_neg (by omega)]
    · unfold gE
      rw [dE_other e1 e2]
theorem gE_range (E : List (Int × Int)) (e : Int × Int) : 0 ≤ (gE E e).getD 0 ∧ (gE E e).getD 0 ≤ E.length := by
  rw [gE_getD]
  have := List.count_le_length (a := e) (l := E)
  unfold dE
  split <;> omega
/-- Nothing waits at the end: each pair has as many meetings as the other way round. -/
theorem gE_empty (E : List (Int × Int)) : (∀ e, (gE E e).isSome = false) ↔ ∀ e, E.count e = E.count (swP e) := by
  constructor
  · intro h e
    have h1 := h e
    have h2 := h (swP e)
    unfold gE at h1 h2
    rw [dE_sw] at h2
    have e1 : ¬ 0 < dE E e := fun q => by rw [if_pos q] at h1; cases h1
    have e2 : ¬ 0 < - dE E e := fun q => by rw [if_pos q] at h2; cases h2
    unfold dE at e1 e2
    omega
  · intro h e
    unfold gE dE
    rw [h e, if_neg (by omega)]
    rfl
end Go.Proofs.Ythkigilegnjglaa
