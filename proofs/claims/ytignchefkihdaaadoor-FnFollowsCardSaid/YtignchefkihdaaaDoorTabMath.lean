/- Sums of chapter 11, without code: rows of letters' values, what follows, what can hold; and all that its law says. -/
import Derived.Test.YtignchefkihdaaaDoorMg7
namespace Go.Proofs.YtignchefkihdaaaDoor
/-- The row m: letter k holds if bit k of m is one. -/
def rowR (m : Nat) : List Bool := (List.range 6).map fun k => m.testBit k
def valR (f : List Int) (m : Nat) : Bool := valB f (rowR m)
def cntR (f : List Int) : Nat := ((List.range 64).filter (valR f)).length
def allR (l : List (List Int)) (m : Nat) : Bool := l.all fun f => valR f m
def okR (l : List (List Int)) : Bool := l.all isF
def canR (l : List (List Int)) : Bool := okR l && (List.range 64).any (allR l)
def folR (l : List (List Int)) (f : List Int) : Bool := okR l && isF f && (List.range 64).all fun m => !(allR l m) || valR f m
def alkR (a b : List Int) : Bool := isF a && isF b && (List.range 64).all fun m => valR a m == valR b m
def fstR (f : List Int) : Int := match (List.range 64).find? (valR f) with | some m => (m : Int) | none => -1
def alwR (f : List Int) : Bool := cntR f == 64
theorem rowR_len (m : Nat) : (rowR m).length = 6 := by simp [rowR]
theorem valR_not {f : List Int} (h : isF (f ++ [-1]) = true) (m : Nat) : valR (f ++ [-1]) m = !(valR f m) := val_not h
theorem cntR_le (f : List Int) : cntR f ≤ 64 := by
  unfold cntR
  have := List.length_filter_le (valR f) (List.range 64)
  simpa using this
theorem cntR_all {f : List Int} : cntR f = 64 ↔ ∀ m, m < 64 → valR f m = true := by
  unfold cntR
  constructor
  · intro h m hm
    have h2 : ((List.range 64).filter (valR f)).length = (List.range 64).length := by rw [h]; simp
    exact List.length_filter_eq_length_iff.1 h2 m (List.mem_range.2 hm)
  · intro h
    have h2 : ((List.range 64).filter (valR f)).length = (List.range 64).length := List.length_filter_eq_length_iff.2 fun m hm => h m (List.mem_range.1 hm)
    rw [h2]; simp
theorem cntR_pos {f : List Int} : 0 < cntR f ↔ ∃ m, m < 64 ∧ valR f m = true := by
  unfold cntR
  rw [List.length_pos_iff_exists_mem]
  constructor
  · rintro ⟨m, hm⟩
    rw [List.mem_filter, List.mem_range] at hm
    exact ⟨m, hm⟩
  · rintro ⟨m, hm⟩
    exact ⟨m, by rw [List.mem_filter, List.mem_range]; exact hm⟩
theorem fstR_cnt (f : List Int) : decide (0 ≤ fstR f) = decide (0 < cntR f) := by
  unfold fstR
  cases hf : (List.range 64).find? (valR f) with
  | some m =>
    have hm := List.mem_range.1 (List.mem_of_find?_eq_some hf)
    have hv := List.find?_some hf
    rw [decide_eq_true (cntR_pos.2 ⟨m, hm, hv⟩)]
    exact decide_eq_true (by simp)
  | none =>
    have hn := List.find?_eq_none.1 hf
    have : ¬ 0 < cntR f := fun h => by
      obtain ⟨m, hm, hv⟩ := cntR_pos.1 h
      exact hn m (List.mem_range.2 hm) hv
    rw [decide_eq_false this]
    exact decide_eq_false (by simp)
theorem alwR_fst {f : List Int} (h : alwR f = true) : fstR f = 0 := by
  have hall := cntR_all.1 (by simpa [alwR] using h)
  have h0 : (List.range 64).find? (valR f) = some 0 := by
    rw [List.find?_eq_some_iff_getElem]
    exact ⟨hall 0 (by omega), 0, by simp, by simp, fun j hj => absurd hj (Nat.not_lt_zero _)⟩
  unfold fstR
  rw [h0]
  rfl
theorem flt_not (p : Nat → Bool) : ∀ l : List Nat, (l.filter fun m => !(p m)).length + (l.filter p).length = l.length
  | [] => rfl
  | x :: l => by
    have ih := flt_not p l
    simp only [List.filter_cons]
    cases p x <;> simp <;> omega
theorem cntR_not {f : List Int} (h : isF (f ++ [-1]) = true) : cntR (f ++ [-1]) = 64 - cntR f := by
  have e : (List.range 64).filter (valR (f ++ [-1])) = (List.range 64).filter fun m => !(valR f m) := List.filter_congr fun m _ => valR_not h m
  have := flt_not (valR f) (List.range 64)
  unfold cntR
  rw [e]
  simp at this
  omega
theorem folR_can {l : List (List Int)} {f : List Int} (h : isF (f ++ [-1]) = true) (hl : okR l = true) : folR l f = !(canR (l ++ [f ++ [-1]])) := by
  have hf := isF_not h
  have ok : okR (l ++ [f ++ [-1]]) = true := by
    unfold okR at hl ⊢
    rw [List.all_append, hl]
    simp [h]
  have e : ∀ m, allR (l ++ [f ++ [-1]]) m = (allR l m && !(valR f m)) := fun m => by
    unfold allR
    rw [List.all_append]
    simp [valR_not h]
  unfold folR canR
  rw [hl, hf, ok]
  simp only [Bool.true_and]
  rw [← Bool.not_eq_eq_eq_not, List.not_all_eq_any_not]
  congr 1
  funext m
  rw [e m]
  cases allR l m <;> cases valR f m <;> rfl
theorem folR_no {l : List (List Int)} {f : List Int} (hl : okR l = false) : folR l f = false := by
  unfold folR
  rw [hl]
  rfl
theorem alkR_comm (a b : List Int) : alkR a b = alkR b a := by
  unfold alkR
  rw [Bool.and_comm (isF a)]
  congr 2
  funext m
  cases valR a m <;> cases valR b m <;> rfl
theorem alkR_parts {a b : List Int} (h : alkR a b = true) : isF a = true ∧ isF b = true ∧ ∀ m, m < 64 → valR a m = valR b m := by
  unfold alkR at h
  rw [Bool.and_eq_true, Bool.and_eq_true, List.all_eq_true] at h
  exact ⟨h.1.1, h.1.2, fun m hm => by simpa using h.2 m (List.mem_range.2 hm)⟩
theorem alkR_cnt {a b : List Int} (h : alkR a b = true) : cntR a = cntR b := by
  obtain ⟨_, _, hv⟩ := alkR_parts h
  unfold cntR
  rw [List.filter_congr fun m hm => hv m (List.mem_range.1 hm)]
theorem alkR_fol {a b : List Int} (h : alkR a b = true) : folR [a] b = true := by
  obtain ⟨ha, hb, hv⟩ := alkR_parts h
  unfold folR okR allR
  simp only [List.all_cons, List.all_nil, Bool.and_true, ha, hb, Bool.true_and]
  rw [List.all_eq_true]
  intro m hm
  rw [hv m (List.mem_range.1 hm)]
  cases valR b m <;> rfl
end Go.Proofs.YtignchefkihdaaaDoor
