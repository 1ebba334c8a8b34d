/- Sums of chapter 15, without code: orders of speeches; and all that its law says. -/
import Derived.Test.YteffhbboeacogaaInts
namespace Go.Proofs.Yteffhbboeacogaa
/-- The two who speak in turn i. -/
def ordQ (a b : List Int) (n i : Nat) : Int × Int := if i + 1 = n then (b.getD i 0, a.getD i 0) else (a.getD i 0, b.getD i 0)
def ordF (p : Int × Int) : List Int := [p.1, p.2]
/-- The order of the first k turns. -/
def ordP (a b : List Int) (n k : Nat) : List Int := (List.range k).flatMap fun i => ordF (ordQ a b n i)
def turO (a b : List Int) : Bool := decide (a.length = b.length) && (decide (1 ≤ a.length ∧ a.length ≤ 6) && decide (ordP a b a.length a.length).Nodup)
def turX (a b : List Int) : List Int := if turO a b then ordP a b a.length a.length else []
def valO (a : List Int) (x : Int) : Int := if a.contains x then 1 else -1
def sumO (a o : List Int) (k : Nat) : Int := (o.take k).foldl (fun n x => n + valO a x) 0
def fairB (o a : List Int) : Bool := (List.range o.length).all fun k => inr (sumO a o (k + 1)) (-1) 1
def nexI (o : List Int) (w : Int) : Option Nat := (List.range (o.length - 1)).find? fun i => o.getD i 0 == w
def nexN (o : List Int) (w : Int) : Int := match nexI o w with | some i => o.getD (i + 1) 0 | none => 0
def rigL (o a : List Int) : List Int := (o.reverse.find? fun x => !(a.contains x)).toList ++ (o.reverse.find? fun x => a.contains x).toList
def cntO (o s : List Int) : Int := ((o.filter fun x => s.contains x).length : Int)
theorem ordP_succ (a b : List Int) (n k : Nat) : ordP a b n (k + 1) = ordP a b n k ++ [(ordQ a b n k).1, (ordQ a b n k).2] := by
  unfold ordP
  rw [List.range_succ, List.flatMap_append]
  simp [ordF]
theorem ordP_len (a b : List Int) (n : Nat) : ∀ k, (ordP a b n k).length = 2 * k
  | 0 => rfl
  | k + 1 => by rw [ordP_succ, List.length_append, ordP_len a b n k]; simp; omega
theorem nd_two {p : List Int} {x y : Int} : (p ++ [x, y]).Nodup ↔ p.Nodup ∧ p.contains x = false ∧ p.contains y = false ∧ x ≠ y := by
  rw [List.nodup_append]
  simp only [List.nodup_cons, List.not_mem_nil, not_false_eq_true, List.nodup_nil, and_true, List.mem_cons, or_false, List.contains_eq_mem, decide_eq_false_iff_not]
  constructor
  · rintro ⟨h1, h2, h3⟩
    exact ⟨h1, fun h => h3 x h x (.inl rfl) rfl, fun h => h3 y h y (.inr rfl) rfl, h2⟩
  · rintro ⟨h1, h2, h3, h4⟩
    refine ⟨h1, h4, fun z hz u hu e => ?_⟩
    rcases hu with rfl | rfl
    · subst e; exact h2 hz
    · subst e; exact h3 hz
theorem ordP_sub (a b : List Int) (n : Nat) : ∀ d k, (ordP a b n k).Sublist (ordP a b n (k + d))
  | 0, k => List.Sublist.refl _
  | d + 1, k => (ordP_sub a b n d k).trans (by rw [show k + (d + 1) = (k + d) + 1 by omega, ordP_succ]; exact List.sublist_append_left _ _)
theorem ordP_no {a b : List Int} {n k : Nat} (hk : k ≤ n) (h : ¬ (ordP a b n k).Nodup) : ¬ (ordP a b n n).Nodup := fun h2 => h (h2.sublist (by
  have := ordP_sub a b n (n - k) k
  rwa [show k + (n - k) = n by omega] at this))
section
variable {a b : List Int} (h : turO a b = true)
include h
theorem tur_parts : a.length = b.length ∧ 1 ≤ a.length ∧ a.length ≤ 6 ∧ (ordP a b a.length a.length).Nodup := by
  unfold turO at h
  simp only [Bool.and_eq_true, decide_eq_true_eq] at h
  exact ⟨h.1, h.2.1.1, h.2.1.2, h.2.2⟩
theorem ord_ne (i j : Nat) (hi : i < a.length) (hj : j < a.length) : a.getD i 0 ≠ b.getD j 0 := by
  obtain ⟨_, _, _, hn⟩ := tur_parts h
  unfold ordP at hn
  rw [List.nodup_iff_pairwise_ne, List.pairwise_flatMap] at hn
  obtain ⟨h1, h2⟩ := hn
  rw [List.pairwise_iff_getElem] at h2
  have hin : ∀ i, a.getD i 0 ∈ ordF (ordQ a b a.length i) ∧ b.getD i 0 ∈ ordF (ordQ a b a.length i) := fun i => by
    unfold ordQ ordF
    split <;> simp
  rcases Nat.lt_trichotomy i j with hij | rfl | hij
  · have := h2 i j (by simpa using hi) (by simpa using hj) hij
    simp only [List.getElem_range] at this
    exact this _ (hin i).1 _ (hin j).2
  · have := h1 i (List.mem_range.2 hi)
    unfold ordQ ordF at this
    split at this
    · simp only [List.pairwise_cons] at this
      exact fun e => (this.1 _ (by simp)) e.symm
    · simp only [List.pairwise_cons] at this
      exact this.1 _ (by simp)
  · have := h2 j i (by simpa using hj) (by simpa using hi) hij
    simp only [List.getElem_range] at this
    exact fun e => this _ (hin j).2 _ (hin i).1 e.symm
theorem ord_in (i : Nat) (hi : i < a.length) : a.contains (a.getD i 0) = true ∧ a.contains (b.getD i 0) = false ∧ b.contains (b.getD i 0) = true ∧ b.contains (a.getD i 0) = false := by
  obtain ⟨hl, _, _, _⟩ := tur_parts h
  have ga : ∀ j (hj : j < a.length), a.getD j 0 = a[j] := fun j hj => by simp [List.getD, hj]
  have gb : ∀ j (hj : j < b.length), b.getD j 0 = b[j] := fun j hj => by simp [List.getD, hj]
  refine ⟨?_, ?_, ?_, ?_⟩
  · rw [List.contains_iff_mem, ga i hi]; exact List.getElem_mem _
  · rw [← Bool.not_eq_true, List.contains_iff_mem]
    intro hm
    obtain ⟨j, hj, e⟩ := List.getElem_of_mem hm
    exact ord_ne h j i hj hi ((ga j hj).trans e)
  · rw [List.contains_iff_mem, gb i (by omega)]; exact List.getElem_mem _
  · rw [← Bool.not_eq_true, List.contains_iff_mem]
    intro hm
    obtain ⟨j, hj, e⟩ := List.getElem_of_mem hm
    exact ord_ne h i j hi (by omega) (((gb j hj).trans e).symm)
theorem ord_cnt : cntO (ordP a b a.length a.length) a = (a.length : Int) ∧ cntO (ordP a b a.length a.length) b = (b.length : Int) := by
  obtain ⟨hl, _, _, _⟩ := tur_parts h
  have key : ∀ k, k ≤ a.length → ((ordP a b a.length k).filter fun x => a.contains x).length = k ∧ ((ordP a b a.length k).filter fun x => b.contains x).length = k := by
    intro k
    induction k with
    | zero => intro _; exact ⟨rfl, rfl⟩
    | succ k ih =>
      intro hk
      obtain ⟨i1, i2⟩ := ih (by omega)
      obtain ⟨c1, c2, c3, c4⟩ := ord_in h k (by omega)
      rw [ordP_succ, List.filter_append, List.filter_append, List.length_append, List.length_append, i1, i2]
      unfold ordQ
      generalize a.getD k 0 = x at c1 c2 c3 c4 ⊢
      generalize b.getD k 0 = y at c1 c2 c3 c4 ⊢
      split
      · rw [List.filter_cons, List.filter_cons, List.filter_cons, List.filter_cons, c1, c2, c3, c4]; exact ⟨rfl, rfl⟩
      · rw [List.filter_cons, List.filter_cons, List.filter_cons, List.filter_cons, c1, c2, c3, c4]; exact ⟨rfl, rfl⟩
  obtain ⟨k1, k2⟩ := key a.length (Nat.le_refl _)
  unfold cntO
  rw [k1, k2, hl]
  exact ⟨rfl, rfl⟩
end
/-- Sums of turns of two who take each other away. -/
theorem turns (v : Int → Int) : ∀ (P : List (Int × Int)), (∀ p ∈ P, v p.1 + v p.2 = 0 ∧ (v p.1 = 1 ∨ v p.1 = -1)) → ∀ (k : Nat) (n : Int), n = 0 → -1 ≤ ((P.flatMap ordF).take k).foldl (fun n x => n + v x) n ∧ ((P.flatMap ordF).take k).foldl (fun n x => n + v x) n ≤ 1
  | [], _, k, n, hn => by simp [hn]
  | p :: P, h, k, n, hn => by
    have hp := h p List.mem_cons_self
    have ih := turns v P fun q hq => h q (List.mem_cons_of_mem _ hq)
    rw [List.flatMap_cons, show ordF p = [p.1, p.2] from rfl]
    match k with
    | 0 => simp [hn]
    | 1 => simp [hn]; omega
    | k + 2 =>
      have := ih k (n + v p.1 + v p.2) (by omega)
      simpa using this
theorem ord_fair {a b : List Int} (h : turO a b = true) (c : List Int) (hc : c = a ∨ c = b) : fairB (ordP a b a.length a.length) c = true := by
  have hP : ∀ p ∈ (List.range a.length).map (ordQ a b a.length), valO c p.1 + valO c p.2 = 0 ∧ (valO c p.1 = 1 ∨ valO c p.1 = -1) := by
    intro p hp
    obtain ⟨i, hi, rfl⟩ := List.mem_map.1 hp
    obtain ⟨c1, c2, c3, c4⟩ := ord_in h i (List.mem_range.1 hi)
    unfold ordQ valO
    rcases hc with rfl | rfl
    · split <;> (dsimp only; simp only [c2]; decide)
    · split <;> (dsimp only; simp only [c4]; decide)
  have e : ordP a b a.length a.length = ((List.range a.length).map (ordQ a b a.length)).flatMap ordF := by
    unfold ordP
    rw [List.flatMap_map]
  unfold fairB
  rw [List.all_eq_true]
  intro k _
  have := turns (valO c) _ hP (k + 1) 0 rfl
  rw [← e] at this
  unfold inr sumO
  simp only [Bool.and_eq_true, decide_eq_true_eq]
  exact this
theorem ord_rig {a b : List Int} (h : turO a b = true) : rigL (ordP a b a.length a.length) a = [b.getD (a.length - 1) 0, a.getD (a.length - 1) 0] := by
  obtain ⟨hl, h1, _, _⟩ := tur_parts h
  obtain ⟨m, hm⟩ : ∃ m, a.length = m + 1 := ⟨a.length - 1, by omega⟩
  obtain ⟨c1, c2, _, _⟩ := ord_in h m (by omega)
  have e : ordP a b a.length a.length = ordP a b a.length m ++ [b.getD m 0, a.getD m 0] := by
    conv => lhs; rw [show ordP a b a.length a.length = ordP a b a.length (m + 1) by rw [← hm]]
    rw [ordP_succ]
    unfold ordQ
    rw [if_pos hm.symm]
  rw [e, show a.length - 1 = m by omega]
  unfold rigL
  rw [List.reverse_append]
  generalize a.getD m 0 = x at c1 c2 ⊢
  generalize b.getD m 0 = y at c1 c2 ⊢
  rw [show [y, x].reverse = [x, y] from rfl, List.cons_append, List.cons_append, List.nil_append, List.find?_cons, List.find?_cons, List.find?_cons, c1, c2]
  rfl
theorem nex_in {o : List Int} {w : Int} (h : nexN o w ≠ 0) : o.contains (nexN o w) = true ∧ o.contains w = true := by
  unfold nexN at h ⊢
  cases hi : nexI o w with
  | none => rw [hi] at h; exact absurd rfl h
  | some i =>
    unfold nexI at hi
    have hm := List.mem_range.1 (List.mem_of_find?_eq_some hi)
    have hp := List.find?_some hi
    have g : ∀ j (hj : j < o.length), o.getD j 0 = o[j] := fun j hj => by simp [List.getD, hj]
    rw [g i (by omega), beq_iff_eq] at hp
    simp only
    rw [g (i + 1) (by omega), List.contains_iff_mem, List.contains_iff_mem]
    exact ⟨List.getElem_mem _, hp ▸ List.getElem_mem _⟩
end Go.Proofs.Yteffhbboeacogaa
