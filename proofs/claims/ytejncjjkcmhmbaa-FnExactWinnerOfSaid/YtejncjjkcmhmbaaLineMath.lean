/- Sums of chapter 8's lines, without code. -/
import Derived.Test.YtejncjjkcmhmbaaGameMath
import Derived.Test.YtejncjjkcmhmbaaMg7
namespace Go.Proofs.Ytejncjjkcmhmbaa
/-- The first j claims at the even places. -/
def usd (L : List Int) (j : Nat) : List Int := (List.range j).map fun t => L.getD (2 * t) 0
theorem usd_succ (L : List Int) (j : Nat) : usd L (j + 1) = usd L j ++ [L.getD (2 * j) 0] := by simp [usd, List.range_succ]
theorem usd_len (L : List Int) (j : Nat) : (usd L j).length = j := by simp [usd]
theorem usd_mem {L : List Int} {j : Nat} {x : Int} : x ∈ usd L j ↔ ∃ t, t < j ∧ L.getD (2 * t) 0 = x := by simp [usd]
def oddB (L : List Int) (i : Nat) : Bool := i % 2 == 1 || !((usd L (i / 2)).contains (L.getD i 0))
def lnkB (N : Int) (X : List (List Int)) (L : List Int) (i : Nat) : Bool := i == 0 || dA N X (L.getD i 0) (L.getD (i - 1) 0)
def stpB (N : Int) (X : List (List Int)) (L : List Int) (i : Nat) : Bool := inr (L.getD i 0) 0 (N - 1) && lnkB N X L i && oddB L i
def lineB (N : Int) (X : List (List Int)) (L : List Int) : Bool := gB N X && (List.range L.length).all (stpB N X L) && decide (0 < L.length)
def cntU (S : List Int) : Nat := (lsT (bS S) 10).length
theorem flt_add {p q : Nat → Bool} {a : Nat} (h : ∀ j, q j = (p j || j == a)) (ha : p a = false) : ∀ n, ((List.range n).filter q).length = ((List.range n).filter p).length + if a < n then 1 else 0
  | 0 => by simp
  | n + 1 => by
    have ih := flt_add h ha n
    rw [List.range_succ, List.filter_append, List.filter_append, List.length_append, List.length_append, ih]
    by_cases hn : n = a
    · subst hn
      have hq : q n = true := by rw [h]; simp
      simp [hq, ha]
    · have hq : q n = p n := by rw [h]; simp [hn]
      have hlt : (a < n + 1) ↔ (a < n) := by omega
      simp only [List.filter_cons, List.filter_nil, hq, hlt]
      omega
theorem lsT_flt (x : Nat) : (lsT x 10).length = ((List.range 10).filter (x.testBit ·)).length := by simp [lsT]
theorem cntU_nil : cntU [] = 0 := by decide
theorem cntU_add {S : List Int} {z : Int} (h0 : 0 ≤ z) (h1 : z ≤ 9) : cntU (S ++ [z]) = cntU S + if S.contains z then 0 else 1 := by
  obtain ⟨a, rfl⟩ := Int.eq_ofNat_of_zero_le h0
  have hq : ∀ j, (bS (S ++ [(a : Int)])).testBit j = ((bS S).testBit j || j == a) := by
    intro j
    rw [bS_bit, bS_bit]
    by_cases hj : j = a
    · subst hj
      have : j < 10 := by omega
      simp [this]
    · have : ¬ ((j : Int) = (a : Int)) := by omega
      simp [List.contains_eq_mem, hj, this]
  unfold cntU
  rw [lsT_flt, lsT_flt]
  by_cases hc : S.contains (a : Int) = true
  · rw [if_pos hc]
    have e : (fun j => (bS (S ++ [(a : Int)])).testBit j) = fun j => (bS S).testBit j := by
      funext j
      rw [hq]
      by_cases hj : j = a
      · subst hj
        rw [bS_bit, hc]
        have : j < 10 := by omega
        simp [this]
      · simp [hj]
    rw [e]; rfl
  · rw [if_neg hc]
    have ha : (bS S).testBit a = false := by rw [bS_bit]; simp only [Bool.not_eq_true] at hc; rw [hc]; simp
    have := flt_add (p := fun j => (bS S).testBit j) (q := fun j => (bS (S ++ [(a : Int)])).testBit j) hq ha 10
    rw [this, if_pos (by omega)]
theorem cnt_usd {L : List Int} : ∀ {j : Nat}, (∀ t < j, 0 ≤ L.getD (2 * t) 0 ∧ L.getD (2 * t) 0 ≤ 9) → cntU (usd L j) ≤ j ∧ (cntU (usd L j) = j ↔ ∀ t < j, (usd L t).contains (L.getD (2 * t) 0) = false)
  | 0, _ => by simp [usd, cntU_nil]
  | j + 1, h => by
    obtain ⟨i1, i2⟩ := cnt_usd (L := L) (j := j) fun t ht => h t (by omega)
    obtain ⟨h0, h1⟩ := h j (by omega)
    rw [usd_succ, cntU_add h0 h1]
    by_cases hc : (usd L j).contains (L.getD (2 * j) 0) = true
    · rw [if_pos hc]
      refine ⟨by omega, ?_⟩
      constructor
      · intro e; omega
      · intro hh
        have := hh j (by omega)
        rw [hc] at this
        exact absurd this (by decide)
    · rw [if_neg hc]
      have hc' : (usd L j).contains (L.getD (2 * j) 0) = false := by simpa using hc
      refine ⟨by omega, ?_⟩
      constructor
      · intro e t ht
        rcases Nat.lt_or_ge t j with h' | h'
        · exact (i2.1 (by omega)) t h'
        · obtain rfl : t = j := by omega
          exact hc'
      · intro hh
        have := i2.2 fun t ht => hh t (by omega)
        omega
section
variable {N : Int} {X : List (List Int)} {L : List Int}
theorem line_g (h : gB N X = false) : lineB N X L = false := by unfold lineB; rw [h]; rfl
theorem line_nil (h : L.length = 0) : lineB N X L = false := by unfold lineB; rw [h]; simp
theorem line_bad {i : Nat} (hi : i < L.length) (h : stpB N X L i = false) : lineB N X L = false := by
  rw [← Bool.not_eq_true]
  intro hp
  unfold lineB at hp
  rw [Bool.and_eq_true, Bool.and_eq_true] at hp
  have := List.all_eq_true.1 hp.1.2 i (by simpa using hi)
  rw [h] at this
  exact absurd this (by decide)
theorem line_yes (hg : gB N X = true) (h : ∀ i < L.length, stpB N X L i = true) : lineB N X L = decide (0 < L.length) := by
  unfold lineB
  rw [hg, List.all_eq_true.2 (fun i hi => h i (by simpa using hi))]
  rfl
theorem dA_claims (hg : gB N X = true) {a b : Int} (h : dA N X a b = true) : inr a 0 (N - 1) = true ∧ inr b 0 (N - 1) = true := by
  obtain ⟨n, rfl, hn, hp, _⟩ := gB_ok hg
  rw [dA_mem hg hp] at h
  obtain ⟨p, q, e, h1, h2⟩ := hp _ h
  injection e with e1 e
  injection e with e2 _
  subst e1 e2
  exact ⟨inr_t (by omega) (by omega), inr_t (by omega) (by omega)⟩
theorem line_code (hg : gB N X = true) (hn : 0 < L.length) (h0 : inr (L.getD 0 0) 0 (N - 1) = true) (h : ∀ i, i + 1 < L.length → dA N X (L.getD (i + 1) 0) (L.getD i 0) = true) :
    lineB N X L = decide (cntU (usd L ((L.length + 1) / 2)) = (L.length + 1) / 2) := by
  have hcl : ∀ i < L.length, inr (L.getD i 0) 0 (N - 1) = true := by
    intro i hi
    rcases Nat.eq_zero_or_pos i with rfl | hi0
    · exact h0
    · obtain ⟨k, rfl⟩ : ∃ k, i = k + 1 := ⟨i - 1, by omega⟩
      exact (dA_claims hg (h k hi)).1
  have hN : N ≤ 10 := by obtain ⟨n, rfl, hn, _, _⟩ := gB_ok hg; omega
  have hb : ∀ t < (L.length + 1) / 2, 0 ≤ L.getD (2 * t) 0 ∧ L.getD (2 * t) 0 ≤ 9 := by
    intro t ht
    have := hcl (2 * t) (by omega)
    simp only [inr, Bool.and_eq_true, decide_eq_true_iff] at this
    omega
  have key := (cnt_usd hb).2
  by_cases he : cntU (usd L ((L.length + 1) / 2)) = (L.length + 1) / 2
  · rw [decide_eq_true he, line_yes hg, decide_eq_true hn]
    intro i hi
    unfold stpB
    rw [hcl i hi]
    have hl : lnkB N X L i = true := by
      unfold lnkB
      rcases Nat.eq_zero_or_pos i with rfl | hi0
      · rfl
      · obtain ⟨k, rfl⟩ : ∃ k, i = k + 1 := ⟨i - 1, by omega⟩
        rw [Nat.add_sub_cancel, h k hi]; simp
    rw [hl]
    unfold oddB
    by_cases ho : i % 2 = 1
    · rw [ho]; rfl
    · obtain ⟨t, rfl⟩ : ∃ t, i = 2 * t := ⟨i / 2, by omega⟩
      have hx := key.1 he t (by omega)
      rw [show 2 * t / 2 = t by omega, hx]
      simp
  · rw [decide_eq_false he]
    have : ¬ ∀ t < (L.length + 1) / 2, (usd L t).contains (L.getD (2 * t) 0) = false := fun hh => he (key.2 hh)
    obtain ⟨t, ht⟩ := Classical.not_forall.1 this
    rw [Classical.not_imp] at ht
    obtain ⟨ht, hx⟩ := ht
    refine line_bad (i := 2 * t) (by omega) ?_
    unfold stpB oddB
    have hx' : (usd L t).contains (L.getD (2 * t) 0) = true := by simpa using hx
    rw [show 2 * t / 2 = t by omega, hx', show (2 * t % 2 == 1) = false by simp]
    simp
end
end Go.Proofs.Ytejncjjkcmhmbaa
