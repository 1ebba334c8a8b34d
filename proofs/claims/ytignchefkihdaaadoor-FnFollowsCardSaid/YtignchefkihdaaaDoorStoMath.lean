/- Sums of chapter 12, without code: what one has said, taken back, must admit; and all that its law says. -/
import Derived.Test.YtignchefkihdaaaDoorTabMath
namespace Go.Proofs.YtignchefkihdaaaDoor
def dupS (l : List (List Int)) (i : Nat) : Bool := (l.take i).contains (l.getD i [])
def storeB (l : List (List Int)) : Bool := (List.range l.length).all (fun i => !(dupS l i)) && decide (l.length ≤ 12) && canR l
def sayX (l : List (List Int)) (f : List Int) : List (List Int) := if storeB (l ++ [f]) then l ++ [f] else l
def admF (l : List (List Int)) (f : List Int) : Bool := storeB l && folR l f
def quaX (l : List (List Int)) (f : List Int) : List (List Int) := if storeB l && isF f then l.filter fun x => !(canR [x, f]) else []
/-- How many of l fail in row m. -/
def badN (l : List (List Int)) (m : Nat) : Nat := (l.filter fun x => !(valR x m)).length
def lstF (l : List (List Int)) (f : List Int) : Nat := ((List.range 64).filter (valR f)).foldl (fun b m => min b (badN l m)) l.length
def lstN (l : List (List Int)) (f : List Int) : Int := if storeB l && canR [f] then (lstF l f : Int) else -1
theorem min_le (g : Nat → Nat) : ∀ (r : List Nat) (b : Nat), r.foldl (fun b m => min b (g m)) b ≤ b ∧ ∀ m ∈ r, r.foldl (fun b m => min b (g m)) b ≤ g m
  | [], b => ⟨Nat.le_refl _, fun _ h => by simp at h⟩
  | x :: r, b => by
    obtain ⟨h1, h2⟩ := min_le g r (min b (g x))
    refine ⟨Nat.le_trans h1 (Nat.min_le_left _ _), fun m hm => ?_⟩
    rcases List.mem_cons.1 hm with rfl | hm
    · exact Nat.le_trans h1 (Nat.min_le_right _ _)
    · exact h2 m hm
theorem min_is (g : Nat → Nat) : ∀ (r : List Nat) (b : Nat), r.foldl (fun b m => min b (g m)) b = b ∨ ∃ m ∈ r, r.foldl (fun b m => min b (g m)) b = g m
  | [], b => .inl rfl
  | x :: r, b => by
    rcases min_is g r (min b (g x)) with h | ⟨m, hm, h⟩
    · rcases Nat.le_total b (g x) with hb | hb
      · exact .inl (by rw [List.foldl_cons, h, Nat.min_eq_left hb])
      · exact .inr ⟨x, List.mem_cons_self, by rw [List.foldl_cons, h, Nat.min_eq_right hb]⟩
    · exact .inr ⟨m, List.mem_cons_of_mem _ hm, h⟩
theorem store_can {l : List (List Int)} (h : storeB l = true) : canR l = true := by
  unfold storeB at h
  rw [Bool.and_eq_true] at h
  exact h.2
theorem store_len {l : List (List Int)} (h : storeB l = true) : l.length ≤ 12 := by
  unfold storeB at h
  simp only [Bool.and_eq_true, decide_eq_true_eq] at h
  exact h.1.2
theorem can_ok {l : List (List Int)} (h : canR l = true) : okR l = true := by
  unfold canR at h
  rw [Bool.and_eq_true] at h
  exact h.1
theorem can_row {l : List (List Int)} (h : canR l = true) : ∃ m, m < 64 ∧ ∀ x ∈ l, valR x m = true := by
  unfold canR at h
  rw [Bool.and_eq_true, List.any_eq_true] at h
  obtain ⟨_, m, hm, ha⟩ := h
  exact ⟨m, List.mem_range.1 hm, fun x hx => List.all_eq_true.1 ha x hx⟩
theorem can_of {l : List (List Int)} (h : okR l = true) {m : Nat} (hm : m < 64) (ha : ∀ x ∈ l, valR x m = true) : canR l = true := by
  unfold canR
  rw [h, Bool.true_and, List.any_eq_true]
  exact ⟨m, List.mem_range.2 hm, List.all_eq_true.2 ha⟩
theorem okR_mem {l : List (List Int)} : okR l = true ↔ ∀ x ∈ l, isF x = true := List.all_eq_true
theorem say_adm {l : List (List Int)} {f : List Int} (h : storeB (l ++ [f]) = true) : admF (l ++ [f]) f = true := by
  unfold admF
  rw [h, Bool.true_and]
  have hok := can_ok (store_can h)
  have hf : isF f = true := okR_mem.1 hok f (by simp)
  unfold folR
  rw [hok, hf, Bool.true_and, Bool.true_and, List.all_eq_true]
  intro m _
  unfold allR
  rw [List.all_append]
  cases hv : valR f m with
  | true => simp
  | false => simp [hv]
theorem adm_not {l : List (List Int)} {f : List Int} (h : admF l f = true) (hn : isF (f ++ [-1]) = true) : storeB (l ++ [f ++ [-1]]) = false := by
  unfold admF at h
  rw [Bool.and_eq_true] at h
  have hc := folR_can hn (can_ok (store_can h.1))
  rw [h.2] at hc
  cases hs : storeB (l ++ [f ++ [-1]]) with
  | false => rfl
  | true => rw [store_can hs] at hc; cases hc
/-- No number stands twice. -/
theorem dup_nd {l : List (List Int)} : ((List.range l.length).all fun i => !(dupS l i)) = true ↔ l.Nodup := by
  rw [List.all_eq_true, List.nodup_iff_pairwise_ne, List.pairwise_iff_getElem]
  constructor
  · intro h i j hi hj hij e
    have := h j (List.mem_range.2 hj)
    unfold dupS at this
    simp only [Bool.not_eq_true', List.contains_eq_mem, decide_eq_false_iff_not] at this
    apply this
    have ej : l.getD j [] = l[j] := by simp [List.getD, hj]
    rw [ej, ← e, List.mem_take_iff_getElem]
    exact ⟨i, by omega, rfl⟩
  · intro h j hj
    have hj := List.mem_range.1 hj
    unfold dupS
    simp only [Bool.not_eq_true', List.contains_eq_mem, decide_eq_false_iff_not]
    intro hm
    have ej : l.getD j [] = l[j] := by simp [List.getD, hj]
    rw [ej, List.mem_take_iff_getElem] at hm
    obtain ⟨i, hi, e⟩ := hm
    exact h i j (by omega) hj (by omega) e
theorem store_sub {l k : List (List Int)} (h : storeB l = true) (hs : List.Sublist k l) : storeB k = true := by
  obtain ⟨m, hm, ha⟩ := can_row (store_can h)
  have hok := okR_mem.1 (can_ok (store_can h))
  have hlen := store_len h
  have hnd : l.Nodup := dup_nd.1 (by unfold storeB at h; simp only [Bool.and_eq_true] at h; exact h.1.1)
  unfold storeB
  rw [dup_nd.2 (hnd.sublist hs), can_of (okR_mem.2 fun x hx => hok x (hs.subset hx)) hm fun x hx => ha x (hs.subset hx), Bool.true_and, Bool.and_true]
  exact decide_eq_true (Nat.le_trans hs.length_le hlen)
theorem store_erase {l : List (List Int)} {f : List Int} (h : storeB l = true) : storeB (l.erase f) = true := store_sub h List.erase_sublist
theorem lst_can {l : List (List Int)} {f : List Int} (h : storeB l = true) : decide (lstN l f = 0) = canR (l ++ [f]) := by
  unfold lstN
  rw [h, Bool.true_and]
  have hok := okR_mem.1 (can_ok (store_can h))
  cases hc : canR [f] with
  | false =>
    rw [if_neg (by simp)]
    cases hcl : canR (l ++ [f]) with
    | false => rfl
    | true =>
      obtain ⟨m, hm, ha⟩ := can_row hcl
      have hf := okR_mem.1 (can_ok hcl) f (by simp)
      rw [can_of (l := [f]) (okR_mem.2 (by simpa using hf)) hm (by simpa using ha f (by simp))] at hc
      cases hc
  | true =>
    rw [if_pos rfl]
    have hf := okR_mem.1 (can_ok hc) f (by simp)
    have hokf : okR (l ++ [f]) = true := okR_mem.2 fun x hx => by
      rcases List.mem_append.1 hx with hx | hx
      · exact hok x hx
      · rw [List.mem_singleton.1 hx]; exact hf
    have hz : ∀ m, badN l m = 0 ↔ ∀ x ∈ l, valR x m = true := fun m => by
      unfold badN
      rw [List.length_eq_zero_iff, List.filter_eq_nil_iff]
      constructor
      · intro h x hx; have := h x hx; simpa using this
      · intro h x hx; rw [h x hx]; simp
    rw [Bool.eq_iff_iff, decide_eq_true_iff]
    constructor
    · intro h0
      have h0 : lstF l f = 0 := by omega
      rcases min_is (badN l) ((List.range 64).filter (valR f)) l.length with e | ⟨m, hm, e⟩
      · have : l = [] := List.eq_nil_of_length_eq_zero (by unfold lstF at h0; omega)
        subst this
        simpa using hc
      · rw [List.mem_filter, List.mem_range] at hm
        have hb : badN l m = 0 := by unfold lstF at h0; omega
        refine can_of hokf hm.1 fun x hx => ?_
        rcases List.mem_append.1 hx with hx | hx
        · exact (hz m).1 hb x hx
        · rw [List.mem_singleton.1 hx]; exact hm.2
    · intro hcl
      obtain ⟨m, hm, ha⟩ := can_row hcl
      have hb : badN l m = 0 := (hz m).2 fun x hx => ha x (List.mem_append_left _ hx)
      have := (min_le (badN l) ((List.range 64).filter (valR f)) l.length).2 m (by rw [List.mem_filter, List.mem_range]; exact ⟨hm, ha f (by simp)⟩)
      unfold lstF
      omega
theorem lst_le (l : List (List Int)) (f : List Int) : lstN l f ≤ (l.length : Int) := by
  unfold lstN
  split
  · have := (min_le (badN l) ((List.range 64).filter (valR f)) l.length).1
    unfold lstF
    omega
  · omega
theorem filter_imp {α : Type} {p q : α → Bool} : ∀ {l : List α}, (∀ x ∈ l, p x = true → q x = true) → (l.filter p).length ≤ (l.filter q).length
  | [], _ => Nat.le_refl _
  | x :: l, h => by
    have ih := filter_imp (l := l) fun y hy => h y (List.mem_cons_of_mem _ hy)
    have hx := h x List.mem_cons_self
    simp only [List.filter_cons]
    cases hp : p x
    · simp only [Bool.false_eq_true, if_false]
      split <;> simp <;> omega
    · rw [hx hp]; simp; omega
theorem lst_qua {l : List (List Int)} {f : List Int} (h : 0 < lstN l f) : ((quaX l f).length : Int) ≤ lstN l f := by
  unfold lstN at h ⊢
  split at h
  · rename_i hh
    rw [if_pos hh]
    rw [Bool.and_eq_true] at hh
    have hok := okR_mem.1 (can_ok (store_can hh.1))
    have hf := okR_mem.1 (can_ok hh.2) f (by simp)
    have hq : (quaX l f).length ≤ l.length := by
      unfold quaX
      split
      · exact List.length_filter_le _ _
      · simp
    have hm : ∀ m ∈ (List.range 64).filter (valR f), (quaX l f).length ≤ badN l m := fun m hm => by
      rw [List.mem_filter, List.mem_range] at hm
      unfold quaX
      split
      · unfold badN
        refine filter_imp fun x hx hp => ?_
        cases hv : valR x m with
        | false => rfl
        | true =>
          rw [can_of (l := [x, f]) (okR_mem.2 (by simp [hok x hx, hf])) hm.1 (by simp [hv, hm.2])] at hp
          cases hp
      · simp
    rcases min_is (badN l) ((List.range 64).filter (valR f)) l.length with e | ⟨m, hmm, e⟩
    · unfold lstF; rw [e]; omega
    · have := hm m hmm
      unfold lstF; rw [e]; omega
  · omega
end Go.Proofs.YtignchefkihdaaaDoor
