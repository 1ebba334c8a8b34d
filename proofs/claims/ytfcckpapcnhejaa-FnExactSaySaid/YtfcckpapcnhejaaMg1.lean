/- Sums of chapter 11, without code: rows of letters' values, what follows, what can hold; and all that its law says. -/
import Derived.Test.YtfcckpapcnhejaaMg0
namespace Go.Proofs.Ytfcckpapcnhejaa
/-- The row m: letter k holds if bit k of m is one. -/
def rowR (m : Nat) : List Bool := (List.range 6).map fun k => m.testBit k
def valR (f : List Int) (m : Nat) : Bool := valB f (rowR m)
def cntR (f : List Int) : Nat := ((List.range 64).filter (valR f)).length
def allR (l : List (List Int)) (m : Nat) : Bool := l.all fun f => valR f m
def okR (l : List (List Int)) : Bool := l.all isF
def canR (l : List (List Int)) : Bool := okR l && (List.range 64).any (allR l)
def folR (l : List (List Int)) (f : List Int) : Bool := okR l && isF f && (List.range 64).all fun m => !(allR l m) || valR f m
def alkR (a b : List Int) : Bool := isF a && isF b && (List.range 64).all fun m => valR a m == valR b m
def fstR (f : List Int) : Int := match (List.range 64).find? (valR f) with | some m => (m : Int) | none => -1
def alwR (f : List Int) : Bool := cntR f == 64
theorem rowR_len (m : Nat) : (rowR m).length = 6 := by simp [rowR]
theorem valR_not {f : List Int} (h : isF (f ++ [-1]) = true) (m : Nat) : valR (f ++ [-1]) m = !(valR f m) := val_not h
theorem cntR_le (f : List Int) : cntR f ≤ 64 := by
  unfold cntR
  have := List.length_filter_le (valR f) (List.range 64)
  simpa using this
theorem cntR_all {f : List Int} : cntR f = 64 ↔ ∀ m, m < 64 → valR f m = true := by
  unfold cntR
  constructor
  · intro h m hm
    have h2 : ((List.range 64).filter (valR f)).length = (List.range 64).length := by rw [h]; simp
    exact List.length_filter_eq_length_iff.1 h2 m (List.mem_range.2 hm)
  · intro h
    have h2 : ((List.range 64).filter (valR f)).length = (List.range 64).length := List.length_filter_eq_length_iff.2 fun m hm => h m (List.mem_range.1 hm)
    rw [h2]; simp
theorem cntR_pos {f : List Int} : 0 < cntR f ↔ ∃ m, m < 64 ∧ valR f m = true := by
  unfold cntR
  rw [List.length_pos_iff_exists_mem]
  constructor
  · rintro ⟨m, hm⟩
    rw [List.mem_filter, List.mem_range] at hm
    exact ⟨m, hm⟩
  · rintro ⟨m, hm⟩
    exact ⟨m, by rw [List.mem_filter, List.mem_range]; exact hm⟩
theorem fstR_cnt (f : List Int) : decide (0 ≤ fstR f) = decide (0 < cntR f) := by
  unfold fstR
  cases hf : (List.range 64).find? (valR f) with
  | some m =>
    have hm := List.mem_range.1 (List.mem_of_find?_eq_some hf)
    have hv := List.find?_some hf
    rw [decide_eq_true (cntR_pos.2 ⟨m, hm, hv⟩)]
    exact decide_eq_true (by simp)
  | none =>
    have hn := List.find?_eq_none.1 hf
    have : ¬ 0 < cntR f := fun h => by
      obtain ⟨m, hm, hv⟩ := cntR_pos.1 h
      exact hn m (List.mem_range.2 hm) hv
    rw [decide_eq_false this]
    exact decide_eq_false (by simp)
theorem alwR_fst {f : List Int} (h : alwR f = true) : fstR f = 0 := by
  have hall := cntR_all.1 (by simpa [alwR] using h)
  have h0 : (List.range 64).find? (valR f) = some 0 := by
    rw [List.find?_eq_some_iff_getElem]
    exact ⟨hall 0 (by omega), 0, by simp, by simp, fun j hj => absurd hj (Nat.not_lt_zero _)⟩
  unfold fstR
  rw [h0]
  rfl
theorem flt_not (p : Nat → Bool) : ∀ l : List Nat, (l.filter fun m => !(p m)).length + (l.filter p).length = l.length
  | [] => rfl
  | x :: l => by
    have ih := flt_not p l
    simp only [List.filter_cons]
    cases p x <;> simp <;> omega
theorem cntR_not {f : List Int} (h : isF (f ++ [-1]) = true) : cntR (f ++ [-1]) = 64 - cntR f := by
  have e : (List.range 64).filter (valR (f ++ [-1])) = (List.range 64).filter fun m => !(valR f m) := List.filter_congr fun m _ => valR_not h m
  have := flt_not (valR f) (List.range 64)
  unfold cntR
  rw [e]
  simp at this
  omega
theorem folR_can {l : List (List Int)} {f : List Int} (h : isF (f ++ [-1]) = true) (hl : okR l = true) : folR l f = !(canR (l ++ [f ++ [-1]])) := by
  have hf := isF_not h
  have ok : okR (l ++ [f ++ [-1]]) = true := by
    unfold okR at hl ⊢
    rw [List.all_append, hl]
    simp [h]
  have e : ∀ m, allR (l ++ [f ++ [-1]]) m = (allR l m && !(valR f m)) := fun m => by
    unfold allR
    rw [List.all_append]
    simp [valR_not h]
  unfold folR canR
  rw [hl, hf, ok]
  simp only [Bool.true_and]
  rw [← Bool.not_eq_eq_eq_not, List.not_all_eq_any_not]
  congr 1
  funext m
  rw [e m]
  cases allR l m <;> cases valR f m <;> rfl
theorem folR_no {l : List (List Int)} {f : List Int} (hl : okR l = false) : folR l f = false := by
  unfold folR
  rw [hl]
  rfl
theorem alkR_comm (a b : List Int) : alkR a b = alkR b a := by
  unfold alkR
  rw [Bool.and_comm (isF a)]
  congr 2
  funext m
  cases valR a m <;> cases valR b m <;> rfl
theorem alkR_parts {a b : List Int} (h : alkR a b = true) : isF a = true ∧ isF b = true ∧ ∀ m, m < 64 → valR a m = valR b m := by
  unfold alkR at h
  rw [Bool.and_eq_true, Bool.and_eq_true, List.all_eq_true] at h
  exact ⟨h.1.1, h.1.2, fun m hm => by simpa using h.2 m (List.mem_range.2 hm)⟩
theorem alkR_cnt {a b : List Int} (h : alkR a b = true) : cntR a = cntR b := by
  obtain ⟨_, _, hv⟩ := alkR_parts h
  unfold cntR
  rw [List.filter_congr fun m hm => hv m (List.mem_range.1 hm)]
theorem alkR_fol {a b : List Int} (h : alkR a b = true) : folR [a] b = true := by
  obtain ⟨ha, hb, hv⟩ := alkR_parts h
  unfold folR okR allR
  simp only [List.all_cons, List.all_nil, Bool.and_true, ha, hb, Bool.true_and]
  rw [List.all_eq_true]
  intro m hm
  rw [hv m (List.mem_range.1 hm)]
  cases valR b m <;> rfl
end Go.Proofs.Ytfcckpapcnhejaa

/- Sums of chapter 12, without code: what one has said, taken back, must admit; and all that its law says. -/
namespace Go.Proofs.Ytfcckpapcnhejaa
def dupS (l : List (List Int)) (i : Nat) : Bool := (l.take i).contains (l.getD i [])
def storeB (l : List (List Int)) : Bool := (List.range l.length).all (fun i => !(dupS l i)) && decide (l.length ≤ 12) && canR l
def sayX (l : List (List Int)) (f : List Int) : List (List Int) := if storeB (l ++ [f]) then l ++ [f] else l
def admF (l : List (List Int)) (f : List Int) : Bool := storeB l && folR l f
def quaX (l : List (List Int)) (f : List Int) : List (List Int) := if storeB l && isF f then l.filter fun x => !(canR [x, f]) else []
/-- How many of l fail in row m. -/
def badN (l : List (List Int)) (m : Nat) : Nat := (l.filter fun x => !(valR x m)).length
def lstF (l : List (List Int)) (f : List Int) : Nat := ((List.range 64).filter (valR f)).foldl (fun b m => min b (badN l m)) l.length
def lstN (l : List (List Int)) (f : List Int) : Int := if storeB l && canR [f] then (lstF l f : Int) else -1
theorem min_le (g : Nat → Nat) : ∀ (r : List Nat) (b : Nat), r.foldl (fun b m => min b (g m)) b ≤ b ∧ ∀ m ∈ r, r.foldl (fun b m => min b (g m)) b ≤ g m
  | [], b => ⟨Nat.le_refl _, fun _ h => by simp at h⟩
  | x :: r, b => by
    obtain ⟨h1, h2⟩ := min_le g r (min b (g x))
    refine ⟨Nat.le_trans h1 (Nat.min_le_left _ _), fun m hm => ?_⟩
    rcases List.mem_cons.1 hm with rfl | hm
    · exact Nat.le_trans h1 (Nat.min_le_right _ _)
    · exact h2 m hm
theorem min_is (g : Nat → Nat) : ∀ (r : List Nat) (b : Nat), r.foldl (fun b m => min b (g m)) b = b ∨ ∃ m ∈ r, r.foldl (fun b m => min b (g m)) b = g m
  | [], b => .inl rfl
  | x :: r, b => by
    rcases min_is g r (min b (g x)) with h | ⟨m, hm, h⟩
    · rcases Nat.le_total b (g x) with hb | hb
      · exact .inl (by rw [List.foldl_cons, h, Nat.min_eq_left hb])
      · exact .inr ⟨x, List.mem_cons_self, by rw [List.foldl_cons, h, Nat.min_eq_right hb]⟩
    · exact .inr ⟨m, List.mem_cons_of_mem _ hm, h⟩
theorem store_can {l : List (List Int)} (h : storeB l = true) : canR l = true := by
  unfold storeB at h
  rw [Bool.and_eq_true] at h
  exact h.2
theorem store_len {l : List (List Int)} (h : storeB l = true) : l.length ≤ 12 := by
  unfold storeB at h
  simp only [Bool.and_eq_true, decide_eq_true_eq] at h
  exact h.1.2
theorem can_ok {l : List (List Int)} (h : canR l = true) : okR l = true := by
  unfold canR at h
  rw [Bool.and_eq_true] at h
  exact h.1
theorem can_row {l : List (List Int)} (h : canR l = true) : ∃ m, m < 64 ∧ ∀ x ∈ l, valR x m = true := by
  unfold canR at h
  rw [Bool.and_eq_true, List.any_eq_true] at h
  obtain ⟨_, m, hm, ha⟩ := h
  exact ⟨m, List.mem_range.1 hm, fun x hx => List.all_eq_true.1 ha x hx⟩
theorem can_of {l : List (List Int)} (h : okR l = true) {m : Nat} (hm : m < 64) (ha : ∀ x ∈ l, valR x m = true) : canR l = true := by
  unfold canR
  rw [h, Bool.true_and, List.any_eq_true]
  exact ⟨m, List.mem_range.2 hm, List.all_eq_true.2 ha⟩
theorem okR_mem {l : List (List Int)} : okR l = true ↔ ∀ x ∈ l, isF x = true := List.all_eq_true
theorem say_adm {l : List (List Int)} {f : List Int} (h : storeB (l ++ [f]) = true) : admF (l ++ [f]) f = true := by
  unfold admF
  rw [h, Bool.true_and]
  have hok := can_ok (store_can h)
  have hf : isF f = true := okR_mem.1 hok f (by simp)
  unfold folR
  rw [hok, hf, Bool.true_and, Bool.true_and, List.all_eq_true]
  intro m _
  unfold allR
  rw [List.all_append]
  cases hv : valR f m with
  | true => simp
  | false => simp [hv]
theorem adm_not {l : List (List Int)} {f : List Int} (h : admF l f = true) (hn : isF (f ++ [-1]) = true) : storeB (l ++ [f ++ [-1]]) = false := by
  unfold admF at h
  rw [Bool.and_eq_true] at h
  have hc := folR_can hn (can_ok (store_can h.1))
  rw [h.2] at hc
  cases hs : storeB (l ++ [f ++ [-1]]) with
  | false => rfl
  | true => rw [store_can hs] at hc; cases hc
/-- No number stands twice. -/
theorem dup_nd {l : List (List Int)} : ((List.range l.length).all fun i => !(dupS l i)) = true ↔ l.Nodup := by
  rw [List.all_eq_true, List.nodup_iff_pairwise_ne, List.pairwise_iff_getElem]
  constructor
  · intro h i j hi hj hij e
    have := h j (List.mem_range.2 hj)
    unfold dupS at this
    simp only [Bool.not_eq_true', List.contains_eq_mem, decide_eq_false_iff_not] at this
    apply this
    have ej : l.getD j [] = l[j] := by simp [List.getD, hj]
    rw [ej, ← e, List.mem_take_iff_getElem]
    exact ⟨i, by omega, rfl⟩
  · intro h j hj
    have hj := List.mem_range.1 hj
    unfold dupS
    simp only [Bool.not_eq_true', List.contains_eq_mem, decide_eq_false_iff_not]
    intro hm
    have ej : l.getD j [] = l[j] := by simp [List.getD, hj]
    rw [ej, List.mem_take_iff_getElem] at hm
    obtain ⟨i, hi, e⟩ := hm
    exact h i j (by omega) hj (by omega) e
theorem store_sub {l k : List (List Int)} (h : storeB l = true) (hs : List.Sublist k l) : storeB k = true := by
  obtain ⟨m, hm, ha⟩ := can_row (store_can h)
  have hok := okR_mem.1 (can_ok (store_can h))
  have hlen := store_len h
  have hnd : l.Nodup := dup_nd.1 (by unfold storeB at h; simp only [Bool.and_eq_true] at h; exact h.1.1)
  unfold storeB
  rw [dup_nd.2 (hnd.sublist hs), can_of (okR_mem.2 fun x hx => hok x (hs.subset hx)) hm fun x hx => ha x (hs.subset hx), Bool.true_and, Bool.and_true]
  exact decide_eq_true (Nat.le_trans hs.length_le hlen)
theorem store_erase {l : List (List Int)} {f : List Int} (h : storeB l = true) : storeB (l.erase f) = true := store_sub h List.erase_sublist
theorem lst_can {l : List (List Int)} {f : List Int} (h : storeB l = true) : decide (lstN l f = 0) = canR (l ++ [f]) := by
  unfold lstN
  rw [h, Bool.true_and]
  have hok := okR_mem.1 (can_ok (store_can h))
  cases hc : canR [f] with
  | false =>
    rw [if_neg (by simp)]
    cases hcl : canR (l ++ [f]) with
    | false => rfl
    | true =>
      obtain ⟨m, hm, ha⟩ := can_row hcl
      have hf := okR_mem.1 (can_ok hcl) f (by simp)
      rw [can_of (l := [f]) (okR_mem.2 (by simpa using hf)) hm (by simpa using ha f (by simp))] at hc
      cases hc
  | true =>
    rw [if_pos rfl]
    have hf := okR_mem.1 (can_ok hc) f (by simp)
    have hokf : okR (l ++ [f]) = true := okR_mem.2 fun x hx => by
      rcases List.mem_append.1 hx with hx | hx
      · exact hok x hx
      · rw [List.mem_singleton.1 hx]; exact hf
    have hz : ∀ m, badN l m = 0 ↔ ∀ x ∈ l, valR x m = true := fun m => by
      unfold badN
      rw [List.length_eq_zero_iff, List.filter_eq_nil_iff]
      constructor
      · intro h x hx; have := h x hx; simpa using this
      · intro h x hx; rw [h x hx]; simp
    rw [Bool.eq_iff_iff, decide_eq_true_iff]
    constructor
    · intro h0
      have h0 : lstF l f = 0 := by omega
      rcases min_is (badN l) ((List.range 64).filter (valR f)) l.length with e | ⟨m, hm, e⟩
      · have : l = [] := List.eq_nil_of_length_eq_zero (by unfold lstF at h0; omega)
        subst this
        simpa using hc
      · rw [List.mem_filter, List.mem_range] at hm
        have hb : badN l m = 0 := by unfold lstF at h0; omega
        refine can_of hokf hm.1 fun x hx => ?_
        rcases List.mem_append.1 hx with hx | hx
        · exact (hz m).1 hb x hx
        · rw [List.mem_singleton.1 hx]; exact hm.2
    · intro hcl
      obtain ⟨m, hm, ha⟩ := can_row hcl
      have hb : badN l m = 0 := (hz m).2 fun x hx => ha x (List.mem_append_left _ hx)
      have := (min_le (badN l) ((List.range 64).filter (valR f)) l.length).2 m (by rw [List.mem_filter, List.mem_range]; exact ⟨hm, ha f (by simp)⟩)
      unfold lstF
      omega
theorem lst_le (l : List (List Int)) (f : List Int) : lstN l f ≤ (l.length : Int) := by
  unfold lstN
  split
  · have := (min_le (badN l) ((List.range 64).filter (valR f)) l.length).1
    unfold lstF
    omega
  · omega
theorem filter_imp {α : Type} {p q : α → Bool} : ∀ {l : List α}, (∀ x ∈ l, p x = true → q x = true) → (l.filter p).length ≤ (l.filter q).length
  | [], _ => Nat.le_refl _
  | x :: l, h => by
    have ih := filter_imp (l := l) fun y hy => h y (List.mem_cons_of_mem _ hy)
    have hx := h x List.mem_cons_self
    simp only [List.filter_cons]
    cases hp : p x
    · simp only [Bool.false_eq_true, if_false]
      split <;> simp <;> omega
    · rw [hx hp]; simp; omega
theorem lst_qua {l : List (List Int)} {f : List Int} (h : 0 < lstN l f) : ((quaX l f).length : Int) ≤ lstN l f := by
  unfold lstN at h ⊢
  split at h
  · rename_i hh
    rw [if_pos hh]
    rw [Bool.and_eq_true] at hh
    have hok := okR_mem.1 (can_ok (store_can hh.1))
    have hf := okR_mem.1 (can_ok hh.2) f (by simp)
    have hq : (quaX l f).length ≤ l.length := by
      unfold quaX
      split
      · exact List.length_filter_le _ _
      · simp
    have hm : ∀ m ∈ (List.range 64).filter (valR f), (quaX l f).length ≤ badN l m := fun m hm => by
      rw [List.mem_filter, List.mem_range] at hm
      unfold quaX
      split
      · unfold badN
        refine filter_imp fun x hx hp => ?_
        cases hv : valR x m with
        | false => rfl
        | true =>
          rw [can_of (l := [x, f]) (okR_mem.2 (by simp [hok x hx, hf])) hm.1 (by simp [hv, hm.2])] at hp
          cases hp
      · simp
    rcases min_is (badN l) ((List.range 64).filter (valR f)) l.length with e | ⟨m, hmm, e⟩
    · unfold lstF; rw [e]; omega
    · have := hm m hmm
      unfold lstF; rw [e]; omega
  · omega
end Go.Proofs.Ytfcckpapcnhejaa

/- Sums of chapter 12 as the loops keep them: the place of a formula in a list, whether no two are the same, the least that is taken back. No conditions. -/
namespace Go.Proofs.Ytfcckpapcnhejaa
def fndN (X : List (List Int)) (f : List Int) : Nat := X.findIdx (fun x => decide (x = f))
/-- The place of f in X, or -1. -/
def fndI (X : List (List Int)) (f : List Int) : Int := if fndN X f < X.length then (fndN X f : Int) else -1
theorem fnd_at {X : List (List Int)} {f : List Int} {k : Nat} (hk : k < X.length) (h : X[k] = f) (hno : ∀ j (hj : j < k), X[j] ≠ f) : fndI X f = (k : Int) := by
  have e : fndN X f = k := (List.findIdx_eq hk).2 ⟨by simp [h], fun j hj => by simpa using hno j hj⟩
  unfold fndI
  rw [e, if_pos hk]
theorem fnd_none {X : List (List Int)} {f : List Int} (hno : ∀ j (hj : j < X.length), X[j] ≠ f) : fndI X f = -1 := by
  unfold fndI
  rw [if_neg]
  intro h
  have := List.findIdx_getElem (w := h)
  exact hno _ h (of_decide_eq_true this)
theorem fnd_cases (X : List (List Int)) (f : List Int) : (fndI X f = -1 ∧ ∀ x ∈ X, x ≠ f) ∨ ∃ k, ∃ h : k < X.length, fndI X f = (k : Int) ∧ X[k] = f ∧ ∀ j (hj : j < k), X[j] ≠ f := by
  by_cases h : fndN X f < X.length
  · right
    have h1 := List.findIdx_getElem (w := h)
    refine ⟨fndN X f, h, by unfold fndI; rw [if_pos h], of_decide_eq_true h1, fun j hj => ?_⟩
    have := List.not_of_lt_findIdx hj
    simpa using this
  · left
    refine ⟨by unfold fndI; rw [if_neg h], fun x hx e => h ?_⟩
    exact List.findIdx_lt_length.2 ⟨x, hx, by simpa using e⟩
theorem fnd_lo (X : List (List Int)) (f : List Int) : -1 ≤ fndI X f ∧ fndI X f ≤ X.length := by
  rcases fnd_cases X f with ⟨h, _⟩ | ⟨k, hk, h, _⟩ <;> omega
/-- What is left when f is taken back, and whether it was there. -/
def tbX (X : List (List Int)) (f : List Int) : List (List Int) := if fndN X f < X.length then X.take (fndN X f) ++ X.drop (fndN X f + 1) else X
def tbB (X : List (List Int)) (f : List Int) : Bool := decide (fndN X f < X.length)
theorem tb_cases (X : List (List Int)) (f : List Int) : (fndI X f = -1 ∧ tbB X f = false ∧ tbX X f = X) ∨ ∃ k, k < X.length ∧ fndI X f = (k : Int) ∧ tbB X f = true ∧ tbX X f = X.take k ++ X.drop (k + 1) := by
  by_cases h : fndN X f < X.length
  · right
    exact ⟨fndN X f, h, by unfold fndI; rw [if_pos h], decide_eq_true h, by unfold tbX; rw [if_pos h]⟩
  · left
    exact ⟨by unfold fndI; rw [if_neg h], decide_eq_false h, by unfold tbX; rw [if_neg h]⟩
def difB (X : List (List Int)) : Bool := (List.range X.length).all (fun i => !(dupS X i))
theorem storeB_eq (X : List (List Int)) : storeB X = (difB X && decide (X.length ≤ 12) && canR X) := rfl
theorem dupS_at {X : List (List Int)} {i : Nat} (hi : i < X.length) : dupS X i = decide (X[i] ∈ X.take i) := by
  unfold dupS
  rw [show X.getD i [] = X[i] by simp [List.getD, hi], List.contains_eq_mem]
theorem dup_pre {X : List (List Int)} {i : Nat} (hi : i < X.length) : decide (0 ≤ fndI (X.take i) X[i]) = dupS X i := by
  rw [dupS_at hi, decide_eq_decide]
  rcases fnd_cases (X.take i) X[i] with ⟨h, hno⟩ | ⟨k, hk, h, he, _⟩
  · rw [h]
    constructor
    · intro h; omega
    · intro h; exact absurd rfl (hno _ h)
  · rw [h]
    constructor
    · intro _; rw [← he]; exact List.getElem_mem _
    · intro _; omega
theorem dup_fnd {X : List (List Int)} {i : Nat} (hi : i < X.length) : decide (fndI X X[i] < (i : Int)) = dupS X i := by
  rw [dupS_at hi, decide_eq_decide]
  rcases fnd_cases X X[i] with ⟨h, hno⟩ | ⟨k, hk, h, he, hlt⟩
  · exact absurd rfl (hno X[i] (List.getElem_mem _))
  · rw [h]
    constructor
    · intro h
      rw [← he, List.mem_take_iff_getElem]
      exact ⟨k, by omega, rfl⟩
    · intro h
      rw [List.mem_take_iff_getElem] at h
      obtain ⟨j, hj, e⟩ := h
      rcases Nat.lt_or_ge j k with h' | h'
      · exact absurd e (hlt j h')
      · omega
theorem difB_bad {X : List (List Int)} {i : Nat} (hi : i < X.length) (h : dupS X i = true) : difB X = false := by
  cases hd : difB X with
  | false => rfl
  | true =>
    have := List.all_eq_true.1 hd i (List.mem_range.2 hi)
    rw [h] at this
    cases this
theorem difB_good {X : List (List Int)} (h : ∀ j, j < X.length → dupS X j = false) : difB X = true := by
  unfold difB
  rw [List.all_eq_true]
  intro j hj
  rw [h j (List.mem_range.1 hj)]
  rfl
theorem badN_le (X : List (List Int)) (m : Nat) : badN X m ≤ X.length := List.length_filter_le _ _
/-- The least so far, as the code keeps it: -1 as long as there is none. -/
def ldI (X : List (List Int)) (f : List Int) : Nat → Int
  | 0 => -1
  | m + 1 => if valR f m && (decide (ldI X f m < 0) || decide ((badN X m : Int) < ldI X f m)) then (badN X m : Int) else ldI X f m
/-- The least so far, as the model keeps it. -/
def lsN (X : List (List Int)) (f : List Int) (m : Nat) : Nat := ((List.range m).filter (valR f)).foldl (fun b m => min b (badN X m)) X.length
theorem lsN_succ (X : List (List Int)) (f : List Int) (m : Nat) : lsN X f (m + 1) = if valR f m then min (lsN X f m) (badN X m) else lsN X f m := by
  unfold lsN
  rw [List.range_succ, List.filter_append, List.foldl_append]
  cases h : valR f m <;> simp [h]
theorem lsN_le (X : List (List Int)) (f : List Int) (m : Nat) : lsN X f m ≤ X.length := (min_le (badN X) _ _).1
theorem ldI_eq (X : List (List Int)) (f : List Int) : ∀ m, ldI X f m = if (List.range m).any (valR f) then (lsN X f m : Int) else -1
  | 0 => by simp [ldI]
  | m + 1 => by
    have ih := ldI_eq X f m
    have hb := badN_le X m
    have hl := lsN_le X f m
    unfold ldI
    rw [ih, lsN_succ, List.range_succ, List.any_append]
    cases hv : valR f m with
    | false => simp [hv]
    | true =>
      cases ha : (List.range m).any (valR f) with
      | false =>
        have h0 : lsN X f m = X.length := by
          unfold lsN
          rw [List.filter_eq_nil_iff.2 fun a ha2 => by have := List.any_eq_false.1 ha a ha2; simpa using this]
          rfl
        simp [hv, h0]
        omega
      | true =>
        simp only [hv, Bool.true_and, Bool.true_or, if_true, List.any_cons, List.any_nil, Bool.or_false]
        rw [decide_eq_false (show ¬ ((lsN X f m : Int) < 0) by omega), Bool.false_or]
        by_cases h : badN X m < lsN X f m
        · rw [decide_eq_true (by omega), if_pos rfl]; omega
        · rw [decide_eq_false (by omega), if_neg (by simp)]; omega
theorem can_one (f : List Int) : canR [f] = (isF f && (List.range 64).any (valR f)) := by
  unfold canR okR
  congr 1
  · simp
  · congr 1
    funext m
    simp [allR]
theorem any_isF {f : List Int} (h : (List.range 64).any (valR f) = true) : isF f = true := by
  rw [List.any_eq_true] at h
  obtain ⟨m, _, hv⟩ := h
  cases hf : isF f with
  | true => rfl
  | false => unfold valR valB at hv; rw [hf] at hv; cases hv
theorem ldI_lst {X : List (List Int)} (f : List Int) (h : storeB X = true) : ldI X f 64 = lstN X f := by
  rw [ldI_eq]
  unfold lstN
  rw [h, can_one, Bool.true_and]
  cases ha : (List.range 64).any (valR f) with
  | true => rw [any_isF ha]; rfl
  | false => rw [Bool.and_false]; rfl
theorem lsN_lst {X : List (List Int)} {f : List Int} (h : storeB X = true) (hc : canR [f] = true) : lstN X f = (lsN X f 64 : Nat) := by
  unfold lstN
  rw [h, hc]
  rfl
theorem lst_off {X : List (List Int)} {f : List Int} (h : (storeB X && canR [f]) = false) : lstN X f = -1 := by
  unfold lstN
  rw [h]
  rfl
end Go.Proofs.Ytfcckpapcnhejaa
