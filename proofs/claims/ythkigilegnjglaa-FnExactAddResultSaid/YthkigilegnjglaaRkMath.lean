/- Mathematics of chapter 17: rankings (rkB, arB), places (atI), preferences (prfN), the winner of pairs (pwN), points of places (ppL), taking out the least (roN). No conditions. -/
import Derived.Test.YthkigilegnjglaaMg0
namespace Go.Proofs.Ythkigilegnjglaa
open Go.ChangeShapes Go.WideShapes Go.ChangeAt Go.RowKit
/-- A ranking of n choices. -/
def rkB (l : List Int) (n : Int) : Bool := decide (1 ≤ n ∧ n ≤ 8 ∧ (l.length : Int) = n ∧ l.Nodup ∧ ∀ x ∈ l, 0 ≤ x ∧ x < n)
theorem rk_parts {l : List Int} {n : Int} (h : rkB l n = true) : 1 ≤ n ∧ n ≤ 8 ∧ (l.length : Int) = n ∧ l.Nodup ∧ ∀ x ∈ l, 0 ≤ x ∧ x < n := of_decide_eq_true h
theorem pigeon : ∀ (L l : List Int), L.Nodup → (∀ x ∈ L, x ∈ l) → l.length = L.length → l.Nodup ∧ ∀ x ∈ l, x ∈ L
  | [], l, _, _, hl => by
    have : l = [] := List.eq_nil_of_length_eq_zero hl
    subst this
    simp
  | a :: L, l, hn, hs, hl => by
    have ha : a ∈ l := hs a (by simp)
    have hp := List.perm_cons_erase ha
    obtain ⟨h1, h2⟩ := List.nodup_cons.1 hn
    have hlen : (l.erase a).length = L.length := by rw [List.length_erase_of_mem ha, hl]; simp
    have hsub : ∀ x ∈ L, x ∈ l.erase a := fun x hx => by
      rw [List.mem_erase_of_ne (fun e => by subst e; exact h1 hx)]
      exact hs x (List.mem_cons_of_mem _ hx)
    obtain ⟨k1, k2⟩ := pigeon L (l.erase a) h2 hsub hlen
    have hna : a ∉ l.erase a := fun h => h1 (k2 a h)
    refine ⟨hp.nodup_iff.2 (List.nodup_cons.2 ⟨hna, k1⟩), fun x hx => ?_⟩
    rcases List.mem_cons.1 (hp.mem_iff.1 hx) with e | e
    · rw [e]; simp
    · exact List.mem_cons_of_mem _ (k2 x e)
def upI (n : Nat) : List Int := (List.range n).map fun (k : Nat) => (k : Int)
theorem upI_len (n : Nat) : (upI n).length = n := by simp [upI]
theorem upI_nodup (n : Nat) : (upI n).Nodup := by
  unfold upI
  rw [List.nodup_iff_pairwise_ne, List.pairwise_map]
  exact (List.nodup_iff_pairwise_ne.1 (List.nodup_range (n := n))).imp fun h e => h (by omega)
theorem upI_mem {n : Nat} {x : Int} : x ∈ upI n ↔ 0 ≤ x ∧ x < n := by
  unfold upI
  rw [List.mem_map]
  constructor
  · rintro ⟨k, hk, rfl⟩
    have := List.mem_range.1 hk
    omega
  · rintro ⟨h1, h2⟩
    exact ⟨x.toNat, List.mem_range.2 (by omega), by omega⟩
theorem rk_of_all {l : List Int} {n : Nat} (h1 : 1 ≤ n) (h2 : n ≤ 8) (hl : l.length = n) (h : ∀ k : Nat, k < n → (k : Int) ∈ l) : rkB l n = true := by
  obtain ⟨a, b⟩ := pigeon (upI n) l (upI_nodup n) (fun x hx => by
    obtain ⟨q1, q2⟩ := upI_mem.1 hx
    have := h x.toNat (by omega)
    rwa [show ((x.toNat : Nat) : Int) = x by omega] at this) (by rw [hl, upI_len])
  exact decide_eq_true ⟨by omega, by omega, by omega, a, fun x hx => upI_mem.1 (b x hx)⟩
theorem all_of_rk {l : List Int} {n : Int} (h : rkB l n = true) {x : Int} (h0 : 0 ≤ x) (hx : x < n) : x ∈ l := by
  obtain ⟨a1, a2, a3, a4, a5⟩ := rk_parts h
  obtain ⟨m, rfl⟩ : ∃ m : Nat, n = (m : Int) := ⟨n.toNat, by omega⟩
  exact (pigeon l (upI m) a4 (fun y hy => upI_mem.2 (a5 y hy)) (by rw [upI_len]; omega)).2 x (upI_mem.2 ⟨h0, hx⟩)
theorem rk_no_missing {l : List Int} {n : Int} {k : Int} (h0 : 0 ≤ k) (hk : k < n) (h : k ∉ l) : rkB l n = false := by
  cases hr : rkB l n with
  | false => rfl
  | true => exact absurd (all_of_rk hr h0 hk) h
/-- At most twenty rankings. -/
def arB (L : List (List Int)) (n : Int) : Bool := decide (1 ≤ n ∧ n ≤ 8) && (decide (L.length ≤ 20) && L.all (rkB · n))
theorem ar_parts {L : List (List Int)} {n : Int} (h : arB L n = true) : (1 ≤ n ∧ n ≤ 8) ∧ L.length ≤ 20 ∧ ∀ l ∈ L, rkB l n = true := by
  unfold arB at h
  rw [Bool.and_eq_true, Bool.and_eq_true] at h
  exact ⟨of_decide_eq_true h.1, of_decide_eq_true h.2.1, by simpa using h.2.2⟩
/-- Where a stands first, or -1. -/
def atI (l : List Int) (a : Int) : Int := if a ∈ l then (l.idxOf a : Int) else -1
theorem at_no {l : List Int} {a : Int} (h : a ∉ l) : atI l a = -1 := if_neg h
theorem at_some {l : List Int} {a : Int} {k : Nat} (hk : k < l.length) (he : l[k] = a) (hn : ∀ j (hj : j < k), l[j]'(by omega) ≠ a) : atI l a = k := by
  have hm : a ∈ l := he ▸ List.getElem_mem hk
  have h1 : l.idxOf a = k := by
    have h0 := List.idxOf_lt_length_iff.2 hm
    have h2 : l[l.idxOf a] = a := List.getElem_idxOf h0
    rcases Nat.lt_trichotomy (l.idxOf a) k with h | h | h
    · exact absurd h2 (hn _ h)
    · exact h
    · have := List.not_of_lt_findIdx (p := (· == a)) (xs := l) (i := k) h
      simp at this
      exact absurd he this
  unfold atI
  rw [if_pos hm, h1]
theorem at_ge (l : List Int) (a : Int) : -1 ≤ atI l a := by unfold atI; split <;> omega
theorem at_lt (l : List Int) (a : Int) : atI l a < l.length ∨ (l = [] ∧ atI l a = -1) := by
  unfold atI
  split
  · rename_i h
    have := List.idxOf_lt_length_iff.2 h
    left; omega
  · cases l with
    | nil => right; exact ⟨rfl, rfl⟩
    | cons x l => left; simp; omega
theorem at_mem {l : List Int} {a : Int} (h : a ∈ l) : ∃ k : Nat, atI l a = k ∧ ∃ hk : k < l.length, l[k] = a :=
  ⟨l.idxOf a, if_pos h, List.idxOf_lt_length_iff.2 h, List.getElem_idxOf _⟩
theorem at_get {l : List Int} (hn : l.Nodup) {k : Nat} (hk : k < l.length) : atI l l[k] = k :=
  at_some hk rfl fun j hj e => by
    have := (List.getElem_inj hn).1 e
    omega
theorem at_inj {l : List Int} {a b : Int} (ha : a ∈ l) (h : atI l a = atI l b) : a = b := by
  obtain ⟨k, h1, h2, h3⟩ := at_mem ha
  by_cases hb : b ∈ l
  · obtain ⟨j, g1, g2, g3⟩ := at_mem hb
    have : k = j := by omega
    subst this
    rw [← h3, ← g3]
  · rw [at_no hb, h1] at h; omega
/-- a stands before b. -/
def prB (a b : Int) (l : List Int) : Bool := decide (0 ≤ atI l a) && decide (atI l a < atI l b)
def prfN (L : List (List Int)) (a b : Int) : Nat := L.countP (prB a b)
theorem prf_snoc (X : List (List Int)) (k : Nat) (hk : k < X.length) (a b : Int) : prfN (X.take (k + 1)) a b = prfN (X.take k) a b + (if prB a b X[k] then 1 else 0) := by
  unfold prfN
  rw [List.take_succ_eq_append_getElem hk, List.countP_append, List.countP_singleton]
theorem prf_le (L : List (List Int)) (a b : Int) : prfN L a b ≤ L.length := List.countP_le_length
/-- What a comparison of the places of b and a counts. -/
def cmpI (x y : Int) : Int := if x < y then -1 else if y < x then 1 else 0
def leadI (L : List (List Int)) (a b : Int) : Int := (L.map fun l => cmpI (atI l b) (atI l a)).sum
theorem lead_snoc (X : List (List Int)) (k : Nat) (hk : k < X.length) (a b : Int) : leadI (X.take (k + 1)) a b = leadI (X.take k) a b + cmpI (atI X[k] b) (atI X[k] a) := by
  unfold leadI
  rw [List.take_succ_eq_append_getElem hk, List.map_append, List.sum_append]; simp
theorem lead_prf {L : List (List Int)} {n : Int} (h : ∀ l ∈ L, rkB l n = true) {a b : Int} (ha : 0 ≤ a ∧ a < n) (hb : 0 ≤ b ∧ b < n) : leadI L a b = (prfN L a b : Int) - (prfN L b a : Int) := by
  induction L with
  | nil => rfl
  | cons l L ih =>
    have h1 := ih fun x hx => h x (List.mem_cons_of_mem _ hx)
    have hl := h l (by simp)
    have ma := all_of_rk hl ha.1 ha.2
    have mb := all_of_rk hl hb.1 hb.2
    obtain ⟨i, e1, _, _⟩ := at_mem ma
    obtain ⟨j, e2, _, _⟩ := at_mem mb
    have e3 : leadI (l :: L) a b = cmpI (atI l b) (atI l a) + leadI L a b := by unfold leadI; simp
    have e4 : ∀ a b : Int, (prfN (l :: L) a b : Int) = prfN L a b + (if prB a b l then 1 else 0) := fun a b => by
      unfold prfN
      rw [List.countP_cons]
      split <;> simp_all
    rw [e3, e4, e4, h1]
    unfold cmpI prB
    rw [e1, e2]
    rcases Nat.lt_trichotomy i j with q | q | q
    · rw [if_neg (by omega), if_pos (by omega), decide_eq_true (by omega), decide_eq_true (by omega), decide_eq_false (show ¬ ((j : Int) < i) by omega)]
      simp; omega
    · subst q; simp
    · rw [if_pos (by omega), decide_eq_true (show (0 : Int) ≤ i by omega), decide_eq_false (show ¬ ((i : Int) < j) by omega), decide_eq_true (show (j : Int) < i by omega)]
      simp; omega
/-- a wins against each other one. -/
def beatB (L : List (List Int)) (n : Nat) (a : Nat) : Bool := (List.range n).all fun b => a == b || decide (prfN L b a < prfN L a b)
def pwN (L : List (List Int)) (n : Int) : Int := if arB L n then (match (List.range n.toNat).find? (beatB L n.toNat) with | some a => (a : Int) | none => -1) else -1
/-- The sum of the numbers of choices behind a. -/
def ppN (L : List (List Int)) (n : Int) (a : Int) : Int := (L.map fun l => n - 1 - atI l a).sum
theorem pp_snoc (X : List (List Int)) (k : Nat) (hk : k < X.length) (n a : Int) : ppN (X.take (k + 1)) n a = ppN (X.take k) n a + (n - 1 - atI X[k] a) := by
  unfold ppN
  rw [List.take_succ_eq_append_getElem hk, List.map_append, List.sum_append]; simp
def ppL (L : List (List Int)) (n : Int) : List Int := if arB L n then (upI n.toNat).map (ppN L n) else []
/-- Who is first of those that are left, and in how many rankings a is. -/
def fstO (left l : List Int) : Option Int := l.find? fun x => left.contains x
def frN (L : List (List Int)) (left : List Int) (a : Int) : Nat := L.countP fun l => decide (fstO left l = some a)
theorem fr_snoc (X : List (List Int)) (k : Nat) (hk : k < X.length) (left : List Int) (a : Int) : frN (X.take (k + 1)) left a = frN (X.take k) left a + (if fstO left X[k] = some a then 1 else 0) := by
  unfold frN
  rw [List.take_succ_eq_append_getElem hk, List.countP_append, List.countP_singleton]
  by_cases h : fstO left X[k] = some a <;> simp [h]
theorem fr_le (L : List (List Int)) (left : List Int) (a : Int) : frN L left a ≤ L.length := List.countP_le_length
/-- The last place of those that are first the least often. -/
def outAt (f : Int → Nat) : List Int → Nat → Nat → Int → Nat
  | [], _, o, _ => o
  | x :: l, k, o, y => if f x ≤ f y then outAt f l (k + 1) k x else outAt f l (k + 1) o y
def outN (f : Int → Nat) (left : List Int) : Nat := match left with | [] => 0 | x :: l => outAt f l 1 0 x
end Go.Proofs.Ythkigilegnjglaa
