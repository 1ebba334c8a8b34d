/- The sets of bits that the code keeps, and the lists of claims that they stand for: sums without code. -/
import Derived.Test.YtncndlojceiejaaMg7
namespace Go.Proofs.Ytncndlojceiejaa
/-- The bits of a list of claims. -/
def bS (S : List Int) : Nat := S.foldl (fun b z => if inr z 0 9 then b ||| 2 ^ z.toNat else b) 0
theorem bS_snoc (S : List Int) (z : Int) : bS (S ++ [z]) = if inr z 0 9 then bS S ||| 2 ^ z.toNat else bS S := by simp [bS, List.foldl_append]
theorem bS_take {S : List Int} {k : Nat} (hk : k < S.length) : bS (S.take (k + 1)) = if inr S[k] 0 9 then bS (S.take k) ||| 2 ^ S[k].toNat else bS (S.take k) := by
  rw [List.take_succ_eq_append_getElem hk, bS_snoc]
theorem bS_lt (S : List Int) : bS S < 2 ^ 10 := by
  have key : ∀ (S : List Int) (b : Nat), b < 2 ^ 10 → S.foldl (fun b z => if inr z 0 9 then b ||| 2 ^ z.toNat else b) b < 2 ^ 10 := by
    intro S
    induction S with
    | nil => intro b hb; exact hb
    | cons z S ih =>
      intro b hb
      rw [List.foldl_cons]
      refine ih _ ?_
      split
      · rename_i h
        have h' : 0 ≤ z ∧ z ≤ 9 := by simpa [inr] using h
        exact Nat.or_lt_two_pow hb (Nat.pow_lt_pow_right (by omega) (by omega))
      · exact hb
  exact key S 0 (by decide)
theorem bS_bit (S : List Int) (j : Nat) : (bS S).testBit j = (decide (j < 10) && S.contains (j : Int)) := by
  have key : ∀ (S : List Int) (b : Nat), (S.foldl (fun b z => if inr z 0 9 then b ||| 2 ^ z.toNat else b) b).testBit j = (b.testBit j || (decide (j < 10) && S.contains (j : Int))) := by
    intro S
    induction S with
    | nil => intro b; simp
    | cons z S ih =>
      intro b
      rw [List.foldl_cons, ih, List.contains_cons]
      by_cases h : inr z 0 9 = true
      · have h' : 0 ≤ z ∧ z ≤ 9 := by simpa [inr] using h
        obtain ⟨k, rfl⟩ := Int.eq_ofNat_of_zero_le h'.1
        rw [if_pos h, Nat.testBit_or, Int.toNat_natCast, Nat.testBit_two_pow]
        by_cases e : k = j
        · subst e
          have : k < 10 := by omega
          simp [this]
        · have e3 : ((j : Int) == (k : Int)) = false := beq_eq_false_iff_ne.2 (by omega)
          rw [e3]
          simp [e]
      · rw [if_neg h]
        by_cases e : (j : Int) = z
        · have : ¬ j < 10 := fun hj => h (by subst e; exact inr_t (by omega) (by omega))
          simp [this]
        · have e3 : ((j : Int) == z) = false := beq_eq_false_iff_ne.2 e
          rw [e3]
          simp
  rw [bS, key]; simp
theorem bS_mem (S : List Int) (j : Nat) : (bS S).testBit j = true ↔ j < 10 ∧ (j : Int) ∈ S := by rw [bS_bit]; simp
/-- What the rows of the bits below k hold together. -/
def hB (f : Nat → Nat) (x : Nat) : Nat → Nat
  | 0 => 0
  | k + 1 => if x.testBit k then hB f x k ||| f k else hB f x k
theorem hB_yes {f : Nat → Nat} {x k : Nat} (h : x.testBit k = true) : hB f x (k + 1) = hB f x k ||| f k := by simp [hB, h]
theorem hB_no {f : Nat → Nat} {x k : Nat} (h : x.testBit k = false) : hB f x (k + 1) = hB f x k := by simp [hB, h]
theorem hB_lt {f : Nat → Nat} (hf : ∀ a, f a < 65536) (x : Nat) : ∀ k, hB f x k < 65536
  | 0 => by simp [hB]
  | k + 1 => by
    unfold hB
    split
    · exact Nat.or_lt_two_pow (n := 16) (hB_lt hf x k) (hf k)
    · exact hB_lt hf x k
theorem hB_bit (f : Nat → Nat) (x j : Nat) : ∀ k, (hB f x k).testBit j = true ↔ ∃ a, a < k ∧ x.testBit a = true ∧ (f a).testBit j = true
  | 0 => by simp [hB]
  | k + 1 => by
    have ih := hB_bit f x j k
    by_cases h : x.testBit k = true
    · rw [hB_yes h, Nat.testBit_or, Bool.or_eq_true, ih]
      constructor
      · rintro (⟨a, h1, h2, h3⟩ | h3)
        · exact ⟨a, by omega, h2, h3⟩
        · exact ⟨k, by omega, h, h3⟩
      · rintro ⟨a, h1, h2, h3⟩
        by_cases e : a = k
        · subst e; exact .inr h3
        · exact .inl ⟨a, by omega, h2, h3⟩
    · have h' : x.testBit k = false := by simpa using h
      rw [hB_no h', ih]
      constructor
      · rintro ⟨a, h1, h2, h3⟩
        exact ⟨a, by omega, h2, h3⟩
      · rintro ⟨a, h1, h2, h3⟩
        by_cases e : a = k
        · subst e; exact absurd h2 h
        · exact ⟨a, by omega, h2, h3⟩
def anB (a b : Nat) : Nat := a &&& (65535 - b)
theorem anB_bit {a b : Nat} (hb : b < 65536) (ha : a < 65536) (j : Nat) : (anB a b).testBit j = (a.testBit j && !(b.testBit j)) := by
  unfold anB
  rw [Nat.testBit_and, show 65535 - b = 2 ^ 16 - (b + 1) by omega, Nat.testBit_two_pow_sub_succ (by omega)]
  by_cases hj : j < 16
  · simp [hj]
  · have : a.testBit j = false := Nat.testBit_lt_two_pow (Nat.lt_of_lt_of_le ha (by rw [show (65536 : Nat) = 2 ^ 16 by decide]; exact Nat.pow_le_pow_right (by omega) (by omega)))
    simp [this]
theorem anB_le (a b : Nat) : anB a b ≤ a := Nat.and_le_left
/-- The bits of all claims. -/
def alB (n : Int) : Nat := 2 ^ n.toNat - 1
theorem alB_bit (n : Int) (j : Nat) : (alB n).testBit j = decide (j < n.toNat) := by unfold alB; exact Nat.testBit_two_pow_sub_one _ _
theorem alB_lt {n : Int} (h : n ≤ 10) : alB n < 1024 := by
  unfold alB
  have : 2 ^ n.toNat ≤ 2 ^ 10 := Nat.pow_le_pow_right (by omega) (by omega)
  have : 0 < 2 ^ n.toNat := Nat.two_pow_pos _
  omega
/-- The bits of the claims that are defended. -/
def lfB (n : Int) (f : Nat → Nat) (x : Nat) : Nat := anB (alB n) (hB f x 10)
def dB (n : Int) (f : Nat → Nat) (x : Nat) : Nat := lfB n f (lfB n f x)
theorem lfB_lt {n : Int} (h : n ≤ 10) (f : Nat → Nat) (x : Nat) : lfB n f x < 1024 := Nat.lt_of_le_of_lt (anB_le _ _) (alB_lt h)
theorem dB_lt {n : Int} (h : n ≤ 10) (f : Nat → Nat) (x : Nat) : dB n f x < 1024 := lfB_lt h _ _
section
variable {n : Nat} {X : List (List Int)} (hg : gB n X = true) (hp : Prs n X) (hn : n ≤ 10)
include hg hp hn
omit hp hn in
theorem rn_eq : rn n X = n := by unfold rn; rw [if_pos hg]
omit hg hn in
theorem prs_nat {a b : Int} (h : [a, b] ∈ X) : ∃ p q : Nat, a = p ∧ b = q ∧ p < n ∧ q < n := by
  obtain ⟨p, q, e, h1, h2⟩ := hp _ h
  injection e with e1 e2
  injection e2 with e2 _
  exact ⟨p, q, e1, e2, h1, h2⟩
theorem lfB_bit (x j : Nat) : (lfB n (rf n X) x).testBit j = true ↔ j < n ∧ ¬ ∃ c : Nat, c < 10 ∧ x.testBit c = true ∧ [(c : Int), (j : Int)] ∈ X := by
  have hl := hB_lt (rf_lt n X) x 10
  unfold lfB
  rw [anB_bit hl (Nat.lt_trans (alB_lt (by omega)) (by decide)), alB_bit, Bool.and_eq_true, Bool.not_eq_true', Int.toNat_natCast, decide_eq_true_iff, ← Bool.not_eq_true, hB_bit]
  refine and_congr Iff.rfl (not_congr ⟨?_, ?_⟩)
  · rintro ⟨a, h1, h2, h3⟩
    exact ⟨a, h1, h2, (rf_mem hg hp a j).1 h3⟩
  · rintro ⟨a, h1, h2, h3⟩
    exact ⟨a, h1, h2, (rf_mem hg hp a j).2 h3⟩
theorem dB_bit (x j : Nat) : (dB n (rf n X) x).testBit j = true ↔ j < n ∧ ∀ a : Nat, [(a : Int), (j : Int)] ∈ X → ∃ c : Nat, c < 10 ∧ x.testBit c = true ∧ [(c : Int), (a : Int)] ∈ X := by
  unfold dB
  rw [lfB_bit hg hp hn]
  refine and_congr Iff.rfl ⟨fun h a ha => ?_, fun h => ?_⟩
  · obtain ⟨p, q, e1, e2, h1, h2⟩ := prs_nat hp ha
    obtain rfl : a = p := by omega
    refine Classical.byContradiction fun hc => h ⟨a, by omega, ?_, ha⟩
    exact (lfB_bit hg hp hn x a).2 ⟨h1, hc⟩
  · rintro ⟨a, _, h2, h3⟩
    exact ((lfB_bit hg hp hn x a).1 h2).2 (h a h3)
theorem hB_mem (S : List Int) (j : Nat) : (hB (rf n X) (bS S) 10).testBit j = true ↔ (j : Int) ∈ hit n X S := by
  rw [hB_bit, hit_mem hg hp]
  constructor
  · rintro ⟨a, h1, h2, h3⟩
    exact ⟨a, ((bS_mem S a).1 h2).2, (rf_mem hg hp a j).1 h3⟩
  · rintro ⟨c, hc, hx⟩
    obtain ⟨p, q, e1, e2, h1, h2⟩ := prs_nat hp hx
    subst e1
    exact ⟨p, by omega, (bS_mem S p).2 ⟨by omega, hc⟩, (rf_mem hg hp p j).2 hx⟩
theorem dB_mem {S : List Int} (hs : setB n X S = true) (j : Nat) : (dB n (rf n X) (bS S)).testBit j = true ↔ (j : Int) ∈ defL n X S := by
  rw [dB_bit hg hp hn, defL_mem hg hp, defB_iff hg hp]
  constructor
  · rintro ⟨h1, h2⟩
    refine ⟨hs, by omega, fun z hz => ?_⟩
    obtain ⟨p, q, rfl, e2, h3, h4⟩ := prs_nat hp hz
    obtain ⟨c, _, hc, hx⟩ := h2 p hz
    exact (hit_mem hg hp _).2 ⟨c, ((bS_mem S c).1 hc).2, hx⟩
  · rintro ⟨_, h1, h2⟩
    refine ⟨by omega, fun a ha => ?_⟩
    obtain ⟨c, hc, hx⟩ := (hit_mem hg hp _).1 (h2 a ha)
    obtain ⟨p, q, rfl, e2, h3, h4⟩ := prs_nat hp hx
    exact ⟨p, by omega, (bS_mem S p).2 ⟨by omega, hc⟩, hx⟩
omit hp hn in
theorem set_lt {S : List Int} (hs : setB n X S = true) {z : Int} (hz : z ∈ S) : ∃ p : Nat, z = p ∧ p < n := by
  obtain ⟨h1, h2⟩ := ((setB_iff hg).1 hs).2 z hz
  exact ⟨z.toNat, by omega, by omega⟩
omit hp in
theorem lsT_bS {S : List Int} (hs : setB n X S = true) : lsT (bS S) 10 = S := by
  refine sorted_ext lt_irr lt_tr (lsT_asc _ _) ((setB_iff hg).1 hs).1 (fun z => ?_)
  rw [lsT_mem]
  constructor
  · rintro ⟨j, _, hj, rfl⟩
    exact ((bS_mem S j).1 hj).2
  · intro hz
    obtain ⟨p, rfl, h⟩ := set_lt hg hs hz
    exact ⟨p, by omega, (bS_mem S p).2 ⟨by omega, hz⟩, rfl⟩
theorem dB_code' {S : List Int} (hs : setB n X S = true) : lsT (dB n (rf n X) (bS S)) 10 = defL n X S := by
  refine sorted_ext lt_irr lt_tr (lsT_asc _ _) (defL_asc _ _ _) (fun z => ?_)
  rw [lsT_mem]
  constructor
  · rintro ⟨j, _, hj, rfl⟩
    exact (dB_mem hg hp hn hs j).1 hj
  · intro hz
    obtain ⟨p, rfl, h⟩ := set_lt hg (defL_set hg hp (S := S)) hz
    exact ⟨p, by omega, (dB_mem hg hp hn hs p).2 hz, rfl⟩
end
theorem bS_lsT {x : Nat} (hx : x < 1024) : bS (lsT x 10) = x := by
  refine Nat.eq_of_testBit_eq fun j => ?_
  rw [Bool.eq_iff_iff, bS_mem, lsT_mem]
  constructor
  · rintro ⟨h1, k, _, hk, e⟩
    obtain rfl : k = j := by omega
    exact hk
  · intro h
    have hj : j < 10 := by
      refine Classical.byContradiction fun hc => ?_
      have : x.testBit j = false := Nat.testBit_lt_two_pow (Nat.lt_of_lt_of_le hx (by rw [show (1024 : Nat) = 2 ^ 10 by decide]; exact Nat.pow_le_pow_right (by omega) (by omega)))
      rw [this] at h
      cases h
    exact ⟨hj, j, hj, h, rfl⟩
theorem hB_zero (x : Nat) : ∀ k, hB (fun _ => 0) x k = 0
  | 0 => rfl
  | k + 1 => by unfold hB; rw [hB_zero x k]; simp
theorem rf_none {N : Int} {X : List (List Int)} (h : gB N X = false) : rf N X = fun _ => 0 := by unfold rf; rw [h]; rfl
theorem rn_none {N : Int} {X : List (List Int)} (h : gB N X = false) : rn N X = 0 := by unfold rn; rw [h]; rfl
/-- Whom a list attacks, by bits. -/
theorem hitB_code (N : Int) (X : List (List Int)) (S : List Int) : lsT (hB (rf N X) (bS S) 10) 10 = hit N X S := by
  by_cases h : gB N X = true
  · obtain ⟨n, rfl, hn, hp, _⟩ := gB_ok h
    refine sorted_ext lt_irr lt_tr (lsT_asc _ _) ?_ (fun z => ?_)
    · unfold hit; rw [if_pos h]; exact range_asc _ _
    rw [lsT_mem]
    constructor
    · rintro ⟨j, _, hj, rfl⟩
      exact (hB_mem h hp hn S j).1 hj
    · intro hz
      obtain ⟨c, hc, hx⟩ := (hit_mem h hp z).1 hz
      obtain ⟨p, q, rfl, rfl, h3, h4⟩ := prs_nat hp hx
      exact ⟨q, by omega, (hB_mem h hp hn S q).2 hz, rfl⟩
  · have h' : gB N X = false := by simpa using h
    rw [rf_none h', hB_zero]
    simp [hit, h', lsT]
theorem dB_none {N : Int} {X : List (List Int)} (h : gB N X = false) (x : Nat) : dB (rn N X) (rf N X) x = 0 := by
  rw [rn_none h]
  show anB (alB 0) _ = 0
  exact Nat.le_zero.1 (anB_le (alB 0) _)
theorem dB_code {N : Int} {X : List (List Int)} {S : List Int} (hs : setB N X S = true) : lsT (dB (rn N X) (rf N X) (bS S)) 10 = defL N X S := by
  have h := setB_g hs
  obtain ⟨n, rfl, hn, hp, _⟩ := gB_ok h
  rw [rn_eq h]
  exact dB_code' h hp hn hs
theorem dB_bS {N : Int} {X : List (List Int)} {S : List Int} (hs : setB N X S = true) : dB (rn N X) (rf N X) (bS S) = bS (defL N X S) := by
  rw [← dB_code hs, bS_lsT (dB_lt (rn_le N X).2 _ _)]
/-- The bits after k steps. -/
def itB (n : Int) (f : Nat → Nat) : Nat → Nat
  | 0 => 0
  | k + 1 => dB n f (itB n f k)
theorem itB_code (N : Int) (X : List (List Int)) : ∀ k, itB (rn N X) (rf N X) k = bS (itS N X k)
  | 0 => rfl
  | k + 1 => by
    show dB _ _ (itB _ _ k) = bS (defL N X (itS N X k))
    rw [itB_code N X k]
    by_cases h : gB N X = true
    · have h0 := h
      obtain ⟨n, rfl, hn, hp, _⟩ := gB_ok h
      exact dB_bS (it_set h0 hp k)
    · have h' : gB N X = false := by simpa using h
      rw [dB_none h', defL_none _ h']
      rfl
theorem lsT_itB (N : Int) (X : List (List Int)) (k : Nat) : lsT (itB (rn N X) (rf N X) k) 10 = itS N X k := by
  rw [itB_code]
  by_cases h : gB N X = true
  · have h0 := h
    obtain ⟨n, rfl, hn, hp, _⟩ := gB_ok h
    exact lsT_bS h0 hn (it_set h0 hp k)
  · have h' : gB N X = false := by simpa using h
    rw [it_none h']
    rfl
theorem itB_eq (N : Int) (X : List (List Int)) (j k : Nat) : itB (rn N X) (rf N X) j = itB (rn N X) (rf N X) k ↔ itS N X j = itS N X k :=
  ⟨fun h => by rw [← lsT_itB, ← lsT_itB, h], fun h => by rw [itB_code, itB_code, h]⟩
/-- Whether a set has a quarrel, by bits. -/
theorem quarrel_code {N : Int} {X : List (List Int)} {S : List Int} (hs : setB N X S = true) : ((hB (rf N X) (bS S) 10 &&& bS S) != 0) = S.any fun z => (hit N X S).contains z := by
  have h := setB_g hs
  obtain ⟨n, rfl, hn, hp, _⟩ := gB_ok h
  rw [Bool.eq_iff_iff, bne_iff_ne, List.any_eq_true]
  constructor
  · intro h0
    obtain ⟨j, hj⟩ := Nat.exists_testBit_of_ne_zero h0
    rw [Nat.testBit_and, Bool.and_eq_true, hB_mem h hp hn, bS_mem] at hj
    exact ⟨j, hj.2.2, by simpa using hj.1⟩
  · rintro ⟨z, hz, hc⟩ h0
    obtain ⟨p, rfl, hlt⟩ := set_lt h hs hz
    have : (hB (rf n X) (bS S) 10 &&& bS S).testBit p = true := by
      rw [Nat.testBit_and, Bool.and_eq_true, hB_mem h hp hn, bS_mem]
      exact ⟨by simpa using hc, by omega, hz⟩
    rw [h0] at this
    simp at this
theorem free_set {N : Int} {X : List (List Int)} {S : List Int} (h : freeB N X S = true) : setB N X S = true := by
  unfold freeB at h
  rw [Bool.and_eq_true] at h
  exact h.2
theorem adm_code {N : Int} {X : List (List Int)} {S : List Int} (hf : freeB N X S = true) : (anB (bS S) (dB (rn N X) (rf N X) (bS S)) == 0) = admB N X S := by
  have hs := free_set hf
  have h := setB_g hs
  obtain ⟨n, rfl, hn, hp, _⟩ := gB_ok h
  rw [rn_eq h]
  unfold admB
  rw [hf, Bool.and_true, Bool.eq_iff_iff, beq_iff_eq, Bool.not_eq_true', List.any_eq_false]
  have hl : dB n (rf n X) (bS S) < 65536 := Nat.lt_trans (dB_lt (by omega) _ _) (by decide)
  have hb : bS S < 65536 := Nat.lt_trans (bS_lt S) (by decide)
  constructor
  · intro h0 z hz
    obtain ⟨p, rfl, hlt⟩ := set_lt h hs hz
    have hb2 : (anB (bS S) (dB n (rf n X) (bS S))).testBit p = false := by rw [h0]; simp
    rw [anB_bit hl hb, Bool.and_eq_false_iff] at hb2
    rcases hb2 with h1 | h1
    · rw [(bS_mem S p).2 ⟨by omega, hz⟩] at h1; cases h1
    · have h2 : (dB n (rf n X) (bS S)).testBit p = true := by simpa using h1
      rw [dB_mem h hp hn hs, defL_mem h hp] at h2
      rw [h2]; simp
  · intro h0
    refine Nat.eq_of_testBit_eq fun j => ?_
    rw [anB_bit hl hb]
    by_cases hj : (bS S).testBit j = true
    · have hm := ((bS_mem S j).1 hj).2
      have h1 := h0 j hm
      have h2 : defB n X S j = true := by simpa using h1
      rw [← defL_mem h hp, ← dB_mem h hp hn hs] at h2
      rw [h2]; simp
    · have hj' : (bS S).testBit j = false := by simpa using hj
      rw [hj']; simp
theorem stab_code {N : Int} {X : List (List Int)} {S : List Int} (hf : freeB N X S = true) : ((bS S ||| hB (rf N X) (bS S) 10) == alB (rn N X)) = stabB N X S := by
  have hs := free_set hf
  have h := setB_g hs
  obtain ⟨n, rfl, hn, hp, _⟩ := gB_ok h
  rw [rn_eq h]
  unfold stabB
  rw [hf, hs, Bool.and_true, Bool.true_and, Bool.eq_iff_iff, beq_iff_eq, Bool.not_eq_true', List.any_eq_false, Int.toNat_natCast]
  have hh : ∀ j : Nat, (j : Int) ∈ hit n X S → j < n := fun j hj => by
    obtain ⟨c, _, hx⟩ := (hit_mem h hp _).1 hj
    obtain ⟨p, q, e1, e2, h1, h2⟩ := prs_nat hp hx
    omega
  constructor
  · intro h0 j hj
    rw [List.mem_range] at hj
    have h1 : (bS S ||| hB (rf n X) (bS S) 10).testBit j = true := by rw [h0, alB_bit]; simpa using hj
    rw [Nat.testBit_or, Bool.or_eq_true, bS_mem, hB_mem h hp hn] at h1
    unfold outP
    rcases h1 with h1 | h1
    · simp [h1.2]
    · simp [h1]
  · intro h0
    refine Nat.eq_of_testBit_eq fun j => ?_
    rw [Bool.eq_iff_iff, Nat.testBit_or, Bool.or_eq_true, bS_mem, hB_mem h hp hn, alB_bit, decide_eq_true_iff, Int.toNat_natCast]
    constructor
    · rintro (⟨_, h1⟩ | h1)
      · obtain ⟨p, e, hlt⟩ := set_lt h hs h1
        omega
      · exact hh j h1
    · intro hj
      have h1 := h0 j (List.mem_range.2 hj)
      unfold outP at h1
      by_cases hm : (j : Int) ∈ S
      · exact .inl ⟨by omega, hm⟩
      · right
        simpa [hm] using h1
end Go.Proofs.Ytncndlojceiejaa
