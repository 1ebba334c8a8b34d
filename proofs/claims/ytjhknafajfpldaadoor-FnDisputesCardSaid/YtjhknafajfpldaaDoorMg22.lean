/- Greater sets defend more; what the empty set defends, step by step: sums without code. -/
import Derived.Test.YtjhknafajfpldaaDoorMg21
import Derived.Test.YtjhknafajfpldaaDoorMg6
import Derived.Deep.RegionHeld3
namespace Go.Proofs.YtjhknafajfpldaaDoor
theorem setB_iff {n : Nat} {X : List (List Int)} {S : List Int} (hg : gB n X = true) : setB n X S = true ↔ S.Pairwise (· < ·) ∧ ∀ z ∈ S, 0 ≤ z ∧ z < (n : Int) := by
  unfold setB
  rw [hg, Bool.true_and, decide_eq_true_iff]
  have part : ∀ (i : Nat) (hi : i < S.length), (okS n S i = true ↔ (0 ≤ S[i]'hi ∧ S[i]'hi < (n : Int)) ∧ (i = 0 ∨ S.getD (i - 1) 0 < S[i]'hi)) := fun i hi => by
    unfold okS
    rw [getD_i hi]
    simp [inr]
    omega
  constructor
  · intro h
    refine ⟨?_, fun z hz => ?_⟩
    · rw [List.pairwise_iff_getElem]
      have key : ∀ d i (h1 : i < S.length) (h2 : i + 1 + d < S.length), S[i] < S[i + 1 + d] := by
        intro d
        induction d with
        | zero =>
          intro i h1 h2
          rcases ((part (i + 1) h2).1 (h (i + 1) h2)).2 with h' | h'
          · omega
          · rw [show i + 1 - 1 = i by omega, getD_i h1] at h'
            exact h'
        | succ d ih =>
          intro i h1 h2
          have a := ih i h1 (by omega)
          rcases ((part (i + 1 + (d + 1)) h2).1 (h (i + 1 + (d + 1)) h2)).2 with h' | h'
          · omega
          · rw [show i + 1 + (d + 1) - 1 = i + 1 + d by omega, getD_i (by omega)] at h'
            exact Int.lt_trans a h'
      intro i j hi hj hij
      obtain ⟨d, rfl⟩ : ∃ d, j = i + 1 + d := ⟨j - (i + 1), by omega⟩
      exact key d i hi hj
    · obtain ⟨i, hi, rfl⟩ := List.getElem_of_mem hz
      exact ((part i hi).1 (h i hi)).1
  · rintro ⟨hp, hr⟩ i hi
    rw [List.pairwise_iff_getElem] at hp
    refine (part i hi).2 ⟨hr _ (List.getElem_mem hi), ?_⟩
    by_cases h0 : i = 0
    · exact .inl h0
    · right
      rw [getD_i (by omega)]
      exact hp (i - 1) i (by omega) hi (by omega)
theorem hit_mem {n : Nat} {X : List (List Int)} {S : List Int} (hg : gB n X = true) (hp : Prs n X) (z : Int) : z ∈ hit n X S ↔ ∃ c ∈ S, [c, z] ∈ X := by
  unfold hit
  rw [if_pos hg, Int.toNat_natCast, hitL, List.mem_map]
  constructor
  · rintro ⟨j, hj, rfl⟩
    rw [List.mem_filter] at hj
    have ht := hj.2
    unfold hitP at ht
    rw [List.any_eq_true] at ht
    obtain ⟨x, hx, ht⟩ := ht
    obtain ⟨p, q, rfl, _, _⟩ := hp x hx
    simp at ht
    obtain ⟨e1, e2⟩ := ht
    exact ⟨p, e2, by rw [← e1]; exact hx⟩
  · rintro ⟨c, hc, hx⟩
    obtain ⟨p, q, e, _, hq⟩ := hp _ hx
    injection e with e1 e2
    injection e2 with e2 _
    subst e2
    refine ⟨q, List.mem_filter.2 ⟨List.mem_range.2 hq, ?_⟩, rfl⟩
    unfold hitP
    rw [List.any_eq_true]
    exact ⟨_, hx, by simp [hc]⟩
theorem defB_iff {n : Nat} {X : List (List Int)} {S : List Int} (hg : gB n X = true) (hp : Prs n X) (c : Int) : defB n X S c = true ↔ setB n X S = true ∧ (0 ≤ c ∧ c < (n : Int)) ∧ ∀ z, [z, c] ∈ X → z ∈ hit n X S := by
  unfold defB
  rw [Bool.and_eq_true, Bool.and_eq_true, Bool.not_eq_true', List.any_eq_false]
  have hi : inr c 0 ((n : Int) - 1) = true ↔ 0 ≤ c ∧ c < (n : Int) := by simp [inr]; omega
  rw [hi]
  constructor
  · rintro ⟨⟨h1, h2⟩, h3⟩
    refine ⟨h1, h2, fun z hz => ?_⟩
    have := h3 z ((atk_mem hg hp c z).2 hz)
    simpa using this
  · rintro ⟨h1, h2, h3⟩
    refine ⟨⟨h1, h2⟩, fun z hz => ?_⟩
    have := h3 z ((atk_mem hg hp c z).1 hz)
    simpa using this
theorem defL_mem {n : Nat} {X : List (List Int)} {S : List Int} (hg : gB n X = true) (hp : Prs n X) (z : Int) : z ∈ defL n X S ↔ defB n X S z = true := by
  unfold defL
  by_cases hs : setB n X S = true
  · rw [if_pos hs, Int.toNat_natCast, defT, List.mem_map]
    constructor
    · rintro ⟨j, hj, rfl⟩
      exact (List.mem_filter.1 hj).2
    · intro h
      obtain ⟨_, ⟨h0, h1⟩, _⟩ := (defB_iff hg hp z).1 h
      obtain ⟨k, rfl⟩ := Int.eq_ofNat_of_zero_le h0
      exact ⟨k, List.mem_filter.2 ⟨List.mem_range.2 (by omega), h⟩, rfl⟩
  · rw [if_neg hs]
    constructor
    · intro h; cases h
    · intro h; exact absurd ((defB_iff hg hp z).1 h).1 hs
theorem defL_asc (N : Int) (X : List (List Int)) (S : List Int) : (defL N X S).Pairwise (· < ·) := by
  unfold defL
  split
  · exact range_asc _ _
  · exact List.Pairwise.nil
theorem defL_len {n : Nat} {X : List (List Int)} {S : List Int} : (defL n X S).length ≤ n := by
  unfold defL
  split
  · exact defT_len _ _ _ _
  · simp
theorem defL_set {n : Nat} {X : List (List Int)} {S : List Int} (hg : gB n X = true) (hp : Prs n X) : setB n X (defL n X S) = true :=
  (setB_iff hg).2 ⟨defL_asc _ _ _, fun z hz => ((defB_iff hg hp z).1 ((defL_mem hg hp z).1 hz)).2.1⟩
/-- Greater sets defend more. -/
theorem defL_mono {n : Nat} {X : List (List Int)} {S S' : List Int} (hg : gB n X = true) (hp : Prs n X) (hs : ∀ z ∈ S, z ∈ S') (h' : setB n X S' = true) : ∀ z ∈ defL n X S, z ∈ defL n X S' := fun z hz => by
  rw [defL_mem hg hp, defB_iff hg hp] at hz ⊢
  refine ⟨h', hz.2.1, fun y hy => ?_⟩
  obtain ⟨c, hc, hx⟩ := (hit_mem hg hp y).1 (hz.2.2 y hy)
  exact (hit_mem hg hp y).2 ⟨c, hs c hc, hx⟩
theorem sub_sorted {xs ys : List Int} (hx : xs.Pairwise (· < ·)) (hy : ys.Pairwise (· < ·)) (h : ∀ z ∈ xs, z ∈ ys) : xs.Sublist ys := by
  induction ys generalizing xs with
  | nil =>
    cases xs with
    | nil => exact List.Sublist.slnil
    | cons x xs => exact absurd (h x (by simp)) (by simp)
  | cons y ys ih =>
    cases xs with
    | nil => exact List.nil_sublist _
    | cons x xs =>
      rw [List.pairwise_cons] at hy
      have hx' := hx
      rw [List.pairwise_cons] at hx'
      by_cases e : x = y
      · subst e
        refine List.Sublist.cons_cons _ (ih hx'.2 hy.2 (fun z hz => ?_))
        rcases List.mem_cons.1 (h z (by simp [hz])) with e | h'
        · subst e; exact absurd (hx'.1 _ hz) (Int.lt_irrefl _)
        · exact h'
      · refine List.Sublist.cons _ (ih hx hy.2 (fun z hz => ?_))
        have hxy : x ∈ ys := by
          rcases List.mem_cons.1 (h x (by simp)) with e' | h'
          · exact absurd e' e
          · exact h'
        have hlt := hy.1 x hxy
        have hyz : y < z := by
          rcases List.mem_cons.1 hz with rfl | hz
          · exact hlt
          · exact Int.lt_trans hlt (hx'.1 z hz)
        rcases List.mem_cons.1 (h z hz) with e' | h'
        · omega
        · exact h'
/-- What stands after k steps. -/
def itS (N : Int) (X : List (List Int)) : Nat → List Int
  | 0 => []
  | k + 1 => defL N X (itS N X k)
theorem it_set {n : Nat} {X : List (List Int)} (hg : gB n X = true) (hp : Prs n X) : ∀ k, setB n X (itS n X k) = true
  | 0 => (setB_iff hg).2 ⟨List.Pairwise.nil, fun z hz => by cases hz⟩
  | _ + 1 => defL_set hg hp
theorem it_mono {n : Nat} {X : List (List Int)} (hg : gB n X = true) (hp : Prs n X) : ∀ k, ∀ z ∈ itS n X k, z ∈ itS n X (k + 1)
  | 0, z, hz => by cases hz
  | k + 1, z, hz => defL_mono hg hp (it_mono hg hp k) (it_set hg hp (k + 1)) z hz
theorem it_asc (N : Int) (X : List (List Int)) : ∀ k, (itS N X k).Pairwise (· < ·)
  | 0 => List.Pairwise.nil
  | _ + 1 => defL_asc _ _ _
theorem it_len {n : Nat} {X : List (List Int)} : ∀ k, (itS n X k).length ≤ n
  | 0 => Nat.zero_le _
  | _ + 1 => defL_len
theorem it_grow {n : Nat} {X : List (List Int)} (hg : gB n X = true) (hp : Prs n X) {k : Nat} (h : itS n X (k + 1) ≠ itS n X k) : (itS n X k).length < (itS n X (k + 1)).length := by
  have hs := sub_sorted (it_asc n X k) (it_asc n X (k + 1)) (it_mono hg hp k)
  rcases Nat.lt_or_eq_of_le hs.length_le with h' | h'
  · exact h'
  · exact absurd (hs.eq_of_length h').symm h
theorem it_stay {N : Int} {X : List (List Int)} {k : Nat} (h : itS N X (k + 1) = itS N X k) : ∀ j, itS N X (k + j) = itS N X k
  | 0 => rfl
  | j + 1 => by
    have ih := it_stay h j
    rw [← Nat.add_assoc]
    show defL N X (itS N X (k + j)) = itS N X k
    rw [ih]
    exact h
/-- What stands in any case. -/
def grd (N : Int) (X : List (List Int)) : List Int := itS N X 10
theorem it_many {n : Nat} {X : List (List Int)} (hg : gB n X = true) (hp : Prs n X) : ∀ k, (∀ j, j < k → itS n X (j + 1) ≠ itS n X j) → k ≤ (itS n X k).length
  | 0, _ => Nat.zero_le _
  | k + 1, h => by
    have ih := it_many hg hp k (fun j hj => h j (by omega))
    have := it_grow hg hp (h k (by omega))
    omega
theorem it_fix {n : Nat} {X : List (List Int)} (hg : gB n X = true) {k : Nat} (hgrow : ∀ j, j < k → itS n X (j + 1) ≠ itS n X j) (h : itS n X (k + 1) = itS n X k) : itS n X k = grd n X := by
  obtain ⟨m, e, hm, hp, _⟩ := gB_ok hg
  obtain rfl : n = m := by omega
  have h1 := it_many hg hp k hgrow
  have h2 := it_len (n := n) (X := X) k
  obtain ⟨j, hj⟩ : ∃ j, 10 = k + j := ⟨10 - k, by omega⟩
  unfold grd
  rw [hj]
  exact (it_stay h j).symm
theorem defL_none {N : Int} {X : List (List Int)} (S : List Int) (h : gB N X = false) : defL N X S = [] := by
  unfold defL setB
  rw [h]
  rfl
theorem it_none {N : Int} {X : List (List Int)} (h : gB N X = false) : ∀ k, itS N X k = []
  | 0 => rfl
  | _ + 1 => defL_none _ h
end Go.Proofs.YtjhknafajfpldaaDoor

/- The sets of bits that the code keeps, and the lists of claims that they stand for: sums without code. -/
namespace Go.Proofs.YtjhknafajfpldaaDoor
/-- The bits of a list of claims. -/
def bS (S : List Int) : Nat := S.foldl (fun b z => if inr z 0 9 then b ||| 2 ^ z.toNat else b) 0
theorem bS_snoc (S : List Int) (z : Int) : bS (S ++ [z]) = if inr z 0 9 then bS S ||| 2 ^ z.toNat else bS S := by simp [bS, List.foldl_append]
theorem bS_take {S : List Int} {k : Nat} (hk : k < S.length) : bS (S.take (k + 1)) = if inr S[k] 0 9 then bS (S.take k) ||| 2 ^ S[k].toNat else bS (S.take k) := by
  rw [List.take_succ_eq_append_getElem hk, bS_snoc]
theorem bS_lt (S : List Int) : bS S < 2 ^ 10 := by
  have key : ∀ (S : List Int) (b : Nat), b < 2 ^ 10 → S.foldl (fun b z => if inr z 0 9 then b ||| 2 ^ z.toNat else b) b < 2 ^ 10 := by
    intro S
    induction S with
    | nil => intro b hb; exact hb
    | cons z S ih =>
      intro b hb
      rw [List.foldl_cons]
      refine ih _ ?_
      split
      · rename_i h
        have h' : 0 ≤ z ∧ z ≤ 9 := by simpa [inr] using h
        exact Nat.or_lt_two_pow hb (Nat.pow_lt_pow_right (by omega) (by omega))
      · exact hb
  exact key S 0 (by decide)
theorem bS_bit (S : List Int) (j : Nat) : (bS S).testBit j = (decide (j < 10) && S.contains (j : Int)) := by
  have key : ∀ (S : List Int) (b : Nat), (S.foldl (fun b z => if inr z 0 9 then b ||| 2 ^ z.toNat else b) b).testBit j = (b.testBit j || (decide (j < 10) && S.contains (j : Int))) := by
    intro S
    induction S with
    | nil => intro b; simp
    | cons z S ih =>
      intro b
      rw [List.foldl_cons, ih, List.contains_cons]
      by_cases h : inr z 0 9 = true
      · have h' : 0 ≤ z ∧ z ≤ 9 := by simpa [inr] using h
        obtain ⟨k, rfl⟩ := Int.eq_ofNat_of_zero_le h'.1
        rw [if_pos h, Nat.testBit_or, Int.toNat_natCast, Nat.testBit_two_pow]
        by_cases e : k = j
        · subst e
          have : k < 10 := by omega
          simp [this]
        · have e3 : ((j : Int) == (k : Int)) = false := beq_eq_false_iff_ne.2 (by omega)
          rw [e3]
          simp [e]
      · rw [if_neg h]
        by_cases e : (j : Int) = z
        · have : ¬ j < 10 := fun hj => h (by subst e; exact inr_t (by omega) (by omega))
          simp [this]
        · have e3 : ((j : Int) == z) = false := beq_eq_false_iff_ne.2 e
          rw [e3]
          simp
  rw [bS, key]; simp
theorem bS_mem (S : List Int) (j : Nat) : (bS S).testBit j = true ↔ j < 10 ∧ (j : Int) ∈ S := by rw [bS_bit]; simp
/-- What the rows of the bits below k hold together. -/
def hB (f : Nat → Nat) (x : Nat) : Nat → Nat
  | 0 => 0
  | k + 1 => if x.testBit k then hB f x k ||| f k else hB f x k
theorem hB_yes {f : Nat → Nat} {x k : Nat} (h : x.testBit k = true) : hB f x (k + 1) = hB f x k ||| f k := by simp [hB, h]
theorem hB_no {f : Nat → Nat} {x k : Nat} (h : x.testBit k = false) : hB f x (k + 1) = hB f x k := by simp [hB, h]
theorem hB_lt {f : Nat → Nat} (hf : ∀ a, f a < 65536) (x : Nat) : ∀ k, hB f x k < 65536
  | 0 => by simp [hB]
  | k + 1 => by
    unfold hB
    split
    · exact Nat.or_lt_two_pow (n := 16) (hB_lt hf x k) (hf k)
    · exact hB_lt hf x k
theorem hB_bit (f : Nat → Nat) (x j : Nat) : ∀ k, (hB f x k).testBit j = true ↔ ∃ a, a < k ∧ x.testBit a = true ∧ (f a).testBit j = true
  | 0 => by simp [hB]
  | k + 1 => by
    have ih := hB_bit f x j k
    by_cases h : x.testBit k = true
    · rw [hB_yes h, Nat.testBit_or, Bool.or_eq_true, ih]
      constructor
      · rintro (⟨a, h1, h2, h3⟩ | h3)
        · exact ⟨a, by omega, h2, h3⟩
        · exact ⟨k, by omega, h, h3⟩
      · rintro ⟨a, h1, h2, h3⟩
        by_cases e : a = k
        · subst e; exact .inr h3
        · exact .inl ⟨a, by omega, h2, h3⟩
    · have h' : x.testBit k = false := by simpa using h
      rw [hB_no h', ih]
      constructor
      · rintro ⟨a, h1, h2, h3⟩
        exact ⟨a, by omega, h2, h3⟩
      · rintro ⟨a, h1, h2, h3⟩
        by_cases e : a = k
        · subst e; exact absurd h2 h
        · exact ⟨a, by omega, h2, h3⟩
def anB (a b : Nat) : Nat := a &&& (65535 - b)
theorem anB_bit {a b : Nat} (hb : b < 65536) (ha : a < 65536) (j : Nat) : (anB a b).testBit j = (a.testBit j && !(b.testBit j)) := by
  unfold anB
  rw [Nat.testBit_and, show 65535 - b = 2 ^ 16 - (b + 1) by omega, Nat.testBit_two_pow_sub_succ (by omega)]
  by_cases hj : j < 16
  · simp [hj]
  · have : a.testBit j = false := Nat.testBit_lt_two_pow (Nat.lt_of_lt_of_le ha (by rw [show (65536 : Nat) = 2 ^ 16 by decide]; exact Nat.pow_le_pow_right (by omega) (by omega)))
    simp [this]
theorem anB_le (a b : Nat) : anB a b ≤ a := Nat.and_le_left
/-- The bits of all claims. -/
def alB (n : Int) : Nat := 2 ^ n.toNat - 1
theorem alB_bit (n : Int) (j : Nat) : (alB n).testBit j = decide (j < n.toNat) := by unfold alB; exact Nat.testBit_two_pow_sub_one _ _
theorem alB_lt {n : Int} (h : n ≤ 10) : alB n < 1024 := by
  unfold alB
  have : 2 ^ n.toNat ≤ 2 ^ 10 := Nat.pow_le_pow_right (by omega) (by omega)
  have : 0 < 2 ^ n.toNat := Nat.two_pow_pos _
  omega
/-- The bits of the claims that are defended. -/
def lfB (n : Int) (f : Nat → Nat) (x : Nat) : Nat := anB (alB n) (hB f x 10)
def dB (n : Int) (f : Nat → Nat) (x : Nat) : Nat := lfB n f (lfB n f x)
theorem lfB_lt {n : Int} (h : n ≤ 10) (f : Nat → Nat) (x : Nat) : lfB n f x < 1024 := Nat.lt_of_le_of_lt (anB_le _ _) (alB_lt h)
theorem dB_lt {n : Int} (h : n ≤ 10) (f : Nat → Nat) (x : Nat) : dB n f x < 1024 := lfB_lt h _ _
section
variable {n : Nat} {X : List (List Int)} (hg : gB n X = true) (hp : Prs n X) (hn : n ≤ 10)
include hg hp hn
omit hp hn in
theorem rn_eq : rn n X = n := by unfold rn; rw [if_pos hg]
omit hg hn in
theorem prs_nat {a b : Int} (h : [a, b] ∈ X) : ∃ p q : Nat, a = p ∧ b = q ∧ p < n ∧ q < n := by
  obtain ⟨p, q, e, h1, h2⟩ := hp _ h
  injection e with e1 e2
  injection e2 with e2 _
  exact ⟨p, q, e1, e2, h1, h2⟩
theorem lfB_bit (x j : Nat) : (lfB n (rf n X) x).testBit j = true ↔ j < n ∧ ¬ ∃ c : Nat, c < 10 ∧ x.testBit c = true ∧ [(c : Int), (j : Int)] ∈ X := by
  have hl := hB_lt (rf_lt n X) x 10
  unfold lfB
  rw [anB_bit hl (Nat.lt_trans (alB_lt (by omega)) (by decide)), alB_bit, Bool.and_eq_true, Bool.not_eq_true', Int.toNat_natCast, decide_eq_true_iff, ← Bool.not_eq_true, hB_bit]
  refine and_congr Iff.rfl (not_congr ⟨?_, ?_⟩)
  · rintro ⟨a, h1, h2, h3⟩
    exact ⟨a, h1, h2, (rf_mem hg hp a j).1 h3⟩
  · rintro ⟨a, h1, h2, h3⟩
    exact ⟨a, h1, h2, (rf_mem hg hp a j).2 h3⟩
theorem dB_bit (x j : Nat) : (dB n (rf n X) x).testBit j = true ↔ j < n ∧ ∀ a : Nat, [(a : Int), (j : Int)] ∈ X → ∃ c : Nat, c < 10 ∧ x.testBit c = true ∧ [(c : Int), (a : Int)] ∈ X := by
  unfold dB
  rw [lfB_bit hg hp hn]
  refine and_congr Iff.rfl ⟨fun h a ha => ?_, fun h => ?_⟩
  · obtain ⟨p, q, e1, e2, h1, h2⟩ := prs_nat hp ha
    obtain rfl : a = p := by omega
    refine Classical.byContradiction fun hc => h ⟨a, by omega, ?_, ha⟩
    exact (lfB_bit hg hp hn x a).2 ⟨h1, hc⟩
  · rintro ⟨a, _, h2, h3⟩
    exact ((lfB_bit hg hp hn x a).1 h2).2 (h a h3)
theorem hB_mem (S : List Int) (j : Nat) : (hB (rf n X) (bS S) 10).testBit j = true ↔ (j : Int) ∈ hit n X S := by
  rw [hB_bit, hit_mem hg hp]
  constructor
  · rintro ⟨a, h1, h2, h3⟩
    exact ⟨a, ((bS_mem S a).1 h2).2, (rf_mem hg hp a j).1 h3⟩
  · rintro ⟨c, hc, hx⟩
    obtain ⟨p, q, e1, e2, h1, h2⟩ := prs_nat hp hx
    subst e1
    exact ⟨p, by omega, (bS_mem S p).2 ⟨by omega, hc⟩, (rf_mem hg hp p j).2 hx⟩
theorem dB_mem {S : List Int} (hs : setB n X S = true) (j : Nat) : (dB n (rf n X) (bS S)).testBit j = true ↔ (j : Int) ∈ defL n X S := by
  rw [dB_bit hg hp hn, defL_mem hg hp, defB_iff hg hp]
  constructor
  · rintro ⟨h1, h2⟩
    refine ⟨hs, by omega, fun z hz => ?_⟩
    obtain ⟨p, q, rfl, e2, h3, h4⟩ := prs_nat hp hz
    obtain ⟨c, _, hc, hx⟩ := h2 p hz
    exact (hit_mem hg hp _).2 ⟨c, ((bS_mem S c).1 hc).2, hx⟩
  · rintro ⟨_, h1, h2⟩
    refine ⟨by omega, fun a ha => ?_⟩
    obtain ⟨c, hc, hx⟩ := (hit_mem hg hp _).1 (h2 a ha)
    obtain ⟨p, q, rfl, e2, h3, h4⟩ := prs_nat hp hx
    exact ⟨p, by omega, (bS_mem S p).2 ⟨by omega, hc⟩, hx⟩
omit hp hn in
theorem set_lt {S : List Int} (hs : setB n X S = true) {z : Int} (hz : z ∈ S) : ∃ p : Nat, z = p ∧ p < n := by
  obtain ⟨h1, h2⟩ := ((setB_iff hg).1 hs).2 z hz
  exact ⟨z.toNat, by omega, by omega⟩
omit hp in
theorem lsT_bS {S : List Int} (hs : setB n X S = true) : lsT (bS S) 10 = S := by
  refine sorted_ext lt_irr lt_tr (lsT_asc _ _) ((setB_iff hg).1 hs).1 (fun z => ?_)
  rw [lsT_mem]
  constructor
  · rintro ⟨j, _, hj, rfl⟩
    exact ((bS_mem S j).1 hj).2
  · intro hz
    obtain ⟨p, rfl, h⟩ := set_lt hg hs hz
    exact ⟨p, by omega, (bS_mem S p).2 ⟨by omega, hz⟩, rfl⟩
theorem dB_code' {S : List Int} (hs : setB n X S = true) : lsT (dB n (rf n X) (bS S)) 10 = defL n X S := by
  refine sorted_ext lt_irr lt_tr (lsT_asc _ _) (defL_asc _ _ _) (fun z => ?_)
  rw [lsT_mem]
  constructor
  · rintro ⟨j, _, hj, rfl⟩
    exact (dB_mem hg hp hn hs j).1 hj
  · intro hz
    obtain ⟨p, rfl, h⟩ := set_lt hg (defL_set hg hp (S := S)) hz
    exact ⟨p, by omega, (dB_mem hg hp hn hs p).2 hz, rfl⟩
end
theorem bS_lsT {x : Nat} (hx : x < 1024) : bS (lsT x 10) = x := by
  refine Nat.eq_of_testBit_eq fun j => ?_
  rw [Bool.eq_iff_iff, bS_mem, lsT_mem]
  constructor
  · rintro ⟨h1, k, _, hk, e⟩
    obtain rfl : k = j := by omega
    exact hk
  · intro h
    have hj : j < 10 := by
      refine Classical.byContradiction fun hc => ?_
      have : x.testBit j = false := Nat.testBit_lt_two_pow (Nat.lt_of_lt_of_le hx (by rw [show (1024 : Nat) = 2 ^ 10 by decide]; exact Nat.pow_le_pow_right (by omega) (by omega)))
      rw [this] at h
      cases h
    exact ⟨hj, j, hj, h, rfl⟩
theorem hB_zero (x : Nat) : ∀ k, hB (fun _ => 0) x k = 0
  | 0 => rfl
  | k + 1 => by unfold hB; rw [hB_zero x k]; simp
theorem rf_none {N : Int} {X : List (List Int)} (h : gB N X = false) : rf N X = fun _ => 0 := by unfold rf; rw [h]; rfl
theorem rn_none {N : Int} {X : List (List Int)} (h : gB N X = false) : rn N X = 0 := by unfold rn; rw [h]; rfl
/-- Whom a list attacks, by bits. -/
theorem hitB_code (N : Int) (X : List (List Int)) (S : List Int) : lsT (hB (rf N X) (bS S) 10) 10 = hit N X S := by
  by_cases h : gB N X = true
  · obtain ⟨n, rfl, hn, hp, _⟩ := gB_ok h
    refine sorted_ext lt_irr lt_tr (lsT_asc _ _) ?_ (fun z => ?_)
    · unfold hit; rw [if_pos h]; exact range_asc _ _
    rw [lsT_mem]
    constructor
    · rintro ⟨j, _, hj, rfl⟩
      exact (hB_mem h hp hn S j).1 hj
    · intro hz
      obtain ⟨c, hc, hx⟩ := (hit_mem h hp z).1 hz
      obtain ⟨p, q, rfl, rfl, h3, h4⟩ := prs_nat hp hx
      exact ⟨q, by omega, (hB_mem h hp hn S q).2 hz, rfl⟩
  · have h' : gB N X = false := by simpa using h
    rw [rf_none h', hB_zero]
    simp [hit, h', lsT]
theorem dB_none {N : Int} {X : List (List Int)} (h : gB N X = false) (x : Nat) : dB (rn N X) (rf N X) x = 0 := by
  rw [rn_none h]
  show anB (alB 0) _ = 0
  exact Nat.le_zero.1 (anB_le (alB 0) _)
theorem dB_code {N : Int} {X : List (List Int)} {S : List Int} (hs : setB N X S = true) : lsT (dB (rn N X) (rf N X) (bS S)) 10 = defL N X S := by
  have h := setB_g hs
  obtain ⟨n, rfl, hn, hp, _⟩ := gB_ok h
  rw [rn_eq h]
  exact dB_code' h hp hn hs
theorem dB_bS {N : Int} {X : List (List Int)} {S : List Int} (hs : setB N X S = true) : dB (rn N X) (rf N X) (bS S) = bS (defL N X S) := by
  rw [← dB_code hs, bS_lsT (dB_lt (rn_le N X).2 _ _)]
/-- The bits after k steps. -/
def itB (n : Int) (f : Nat → Nat) : Nat → Nat
  | 0 => 0
  | k + 1 => dB n f (itB n f k)
theorem itB_code (N : Int) (X : List (List Int)) : ∀ k, itB (rn N X) (rf N X) k = bS (itS N X k)
  | 0 => rfl
  | k + 1 => by
    show dB _ _ (itB _ _ k) = bS (defL N X (itS N X k))
    rw [itB_code N X k]
    by_cases h : gB N X = true
    · have h0 := h
      obtain ⟨n, rfl, hn, hp, _⟩ := gB_ok h
      exact dB_bS (it_set h0 hp k)
    · have h' : gB N X = false := by simpa using h
      rw [dB_none h', defL_none _ h']
      rfl
theorem lsT_itB (N : Int) (X : List (List Int)) (k : Nat) : lsT (itB (rn N X) (rf N X) k) 10 = itS N X k := by
  rw [itB_code]
  by_cases h : gB N X = true
  · have h0 := h
    obtain ⟨n, rfl, hn, hp, _⟩ := gB_ok h
    exact lsT_bS h0 hn (it_set h0 hp k)
  · have h' : gB N X = false := by simpa using h
    rw [it_none h']
    rfl
theorem itB_eq (N : Int) (X : List (List Int)) (j k : Nat) : itB (rn N X) (rf N X) j = itB (rn N X) (rf N X) k ↔ itS N X j = itS N X k :=
  ⟨fun h => by rw [← lsT_itB, ← lsT_itB, h], fun h => by rw [itB_code, itB_code, h]⟩
/-- Whether a set has a quarrel, by bits. -/
theorem quarrel_code {N : Int} {X : List (List Int)} {S : List Int} (hs : setB N X S = true) : ((hB (rf N X) (bS S) 10 &&& bS S) != 0) = S.any fun z => (hit N X S).contains z := by
  have h := setB_g hs
  obtain ⟨n, rfl, hn, hp, _⟩ := gB_ok h
  rw [Bool.eq_iff_iff, bne_iff_ne, List.any_eq_true]
  constructor
  · intro h0
    obtain ⟨j, hj⟩ := Nat.exists_testBit_of_ne_zero h0
    rw [Nat.testBit_and, Bool.and_eq_true, hB_mem h hp hn, bS_mem] at hj
    exact ⟨j, hj.2.2, by simpa using hj.1⟩
  · rintro ⟨z, hz, hc⟩ h0
    obtain ⟨p, rfl, hlt⟩ := set_lt h hs hz
    have : (hB (rf n X) (bS S) 10 &&& bS S).testBit p = true := by
      rw [Nat.testBit_and, Bool.and_eq_true, hB_mem h hp hn, bS_mem]
      exact ⟨by simpa using hc, by omega, hz⟩
    rw [h0] at this
    simp at this
theorem free_set {N : Int} {X : List (List Int)} {S : List Int} (h : freeB N X S = true) : setB N X S = true := by
  unfold freeB at h
  rw [Bool.and_eq_true] at h
  exact h.2
theorem adm_code {N : Int} {X : List (List Int)} {S : List Int} (hf : freeB N X S = true) : (anB (bS S) (dB (rn N X) (rf N X) (bS S)) == 0) = admB N X S := by
  have hs := free_set hf
  have h := setB_g hs
  obtain ⟨n, rfl, hn, hp, _⟩ := gB_ok h
  rw [rn_eq h]
  unfold admB
  rw [hf, Bool.and_true, Bool.eq_iff_iff, beq_iff_eq, Bool.not_eq_true', List.any_eq_false]
  have hl : dB n (rf n X) (bS S) < 65536 := Nat.lt_trans (dB_lt (by omega) _ _) (by decide)
  have hb : bS S < 65536 := Nat.lt_trans (bS_lt S) (by decide)
  constructor
  · intro h0 z hz
    obtain ⟨p, rfl, hlt⟩ := set_lt h hs hz
    have hb2 : (anB (bS S) (dB n (rf n X) (bS S))).testBit p = false := by rw [h0]; simp
    rw [anB_bit hl hb, Bool.and_eq_false_iff] at hb2
    rcases hb2 with h1 | h1
    · rw [(bS_mem S p).2 ⟨by omega, hz⟩] at h1; cases h1
    · have h2 : (dB n (rf n X) (bS S)).testBit p = true := by simpa using h1
      rw [dB_mem h hp hn hs, defL_mem h hp] at h2
      rw [h2]; simp
  · intro h0
    refine Nat.eq_of_testBit_eq fun j => ?_
    rw [anB_bit hl hb]
    by_cases hj : (bS S).testBit j = true
    · have hm := ((bS_mem S j).1 hj).2
      have h1 := h0 j hm
      have h2 : defB n X S j = true := by simpa using h1
      rw [← defL_mem h hp, ← dB_mem h hp hn hs] at h2
      rw [h2]; simp
    · have hj' : (bS S).testBit j = false := by simpa using hj
      rw [hj']; simp
theorem stab_code {N : Int} {X : List (List Int)} {S : List Int} (hf : freeB N X S = true) : ((bS S ||| hB (rf N X) (bS S) 10) == alB (rn N X)) = stabB N X S := by
  have hs := free_set hf
  have h := setB_g hs
  obtain ⟨n, rfl, hn, hp, _⟩ := gB_ok h
  rw [rn_eq h]
  unfold stabB
  rw [hf, hs, Bool.and_true, Bool.true_and, Bool.eq_iff_iff, beq_iff_eq, Bool.not_eq_true', List.any_eq_false, Int.toNat_natCast]
  have hh : ∀ j : Nat, (j : Int) ∈ hit n X S → j < n := fun j hj => by
    obtain ⟨c, _, hx⟩ := (hit_mem h hp _).1 hj
    obtain ⟨p, q, e1, e2, h1, h2⟩ := prs_nat hp hx
    omega
  constructor
  · intro h0 j hj
    rw [List.mem_range] at hj
    have h1 : (bS S ||| hB (rf n X) (bS S) 10).testBit j = true := by rw [h0, alB_bit]; simpa using hj
    rw [Nat.testBit_or, Bool.or_eq_true, bS_mem, hB_mem h hp hn] at h1
    unfold outP
    rcases h1 with h1 | h1
    · simp [h1.2]
    · simp [h1]
  · intro h0
    refine Nat.eq_of_testBit_eq fun j => ?_
    rw [Bool.eq_iff_iff, Nat.testBit_or, Bool.or_eq_true, bS_mem, hB_mem h hp hn, alB_bit, decide_eq_true_iff, Int.toNat_natCast]
    constructor
    · rintro (⟨_, h1⟩ | h1)
      · obtain ⟨p, e, hlt⟩ := set_lt h hs h1
        omega
      · exact hh j h1
    · intro hj
      have h1 := h0 j (List.mem_range.2 hj)
      unfold outP at h1
      by_cases hm : (j : Int) ∈ S
      · exact .inl ⟨by omega, hm⟩
      · right
        simpa [hm] using h1
end Go.Proofs.YtjhknafajfpldaaDoor

/- Contracts of the code's sets of bits: bitsOf, hitBy, all, defendedBy, HitBy. Conditions: rows below 2^16; the slices have at most 2^40 elements. -/
namespace Go.Proofs.YtjhknafajfpldaaDoor
open Go.ChangeShapes Go.WideShapes Go.ChangeAt Go.RowKit
set_option maxRecDepth 100000
theorem shl_bit {k : Nat} (h : k < 10) : IntKind.u16.wrap (2 ^ k) = ((2 ^ k : Nat) : Int) := by
  rcases lt10 h with rfl | rfl | rfl | rfl | rfl | rfl | rfl | rfl | rfl | rfl <;> rfl
set_option maxHeartbeats 2000000 in
theorem bitsOf_any {w : World} {B : Nat} {A : Option Addr} {n c : Nat} {S : List Int} (hl : Hid (S.length = n)) (hn : n ≤ 1099511627776) (hr : Rd w B A (ivs S)) :
    Calls Tryd.prog 24 #[.slice A n c] w (fun e w' => e = .returned (.int .u16 (bS S : Nat)) ∧ w = w') := by
  go_enter Tryd.func24, Tryd.ntmps24
  go_wp2_with fail
  go_loopw [3, 8] (fun b i wr => ∃ k : Nat, k ≤ n ∧ i = .int .i64 k ∧ b = .int .u16 (bS (S.take k) : Nat) ∧ wr = w) (fun _ i _ => n - (intOf i).toNat)
  case atStart => exact ⟨0, Nat.zero_le _, rfl, rfl, rfl⟩
  case round =>
    obtain ⟨k, hk, rfl, rfl, rfl⟩ := hrel
    have hx : bS (S.take k) < 65536 := Nat.lt_trans (bS_lt _) (by decide)
    by_cases hlt : k < n
    · have hkz : k < S.length := by rw [hl.out]; exact hlt
      obtain ⟨ad, rfl, hab, hc⟩ := ivs_at hr hkz
      have HT := Lib.hid (bS_take hkz)
      obtain ⟨z, hz⟩ : ∃ z, z = S[k] := ⟨_, rfl⟩
      obtain ⟨x, hxx⟩ : ∃ x, x = bS (S.take k) := ⟨_, rfl⟩
      rw [← hz] at hc HT
      rw [← hxx] at hx HT ⊢
      have i0 : (0 : Int) ≤ (k : Int) := by omega
      clear hz hxx
      by_cases hi : inr z 0 9 = true
      · have hz' : 0 ≤ z ∧ z ≤ 9 := by simpa [inr] using hi
        obtain ⟨h0, h1⟩ := hz'
        obtain ⟨j, rfl⟩ := Int.eq_ofNat_of_zero_le h0
        have HI := Lib.hid hi
        have HO := Lib.hid (or_bit (b := j) hx (by omega))
        have HE := Lib.hid (HT.out.trans (if_pos hi))
        clear hi
        go_wp2_with (go_at_call 30; refine (isClaim_any (by omega) (by omega)).mono ?_; rintro e w1 ⟨he, rfl⟩; rw [show (10 : Int) - 1 = 9 from rfl, HI.out] at he; subst he)
        rw [HO.out]
        go_roundw
        case rel => exact ⟨k + 1, by omega, by go_num, by rw [HE.out, Int.toNat_natCast], trivial⟩
        case measure => simp [intOf]; omega
      · have hi' : inr z 0 9 = false := by simpa using hi
        have HI := Lib.hid hi'
        have HE := Lib.hid (HT.out.trans (if_neg hi))
        clear hi hi'
        go_wp2_with (go_at_call 30; refine (isClaim_any (by omega) (by omega)).mono ?_; rintro e w1 ⟨he, rfl⟩; rw [show (10 : Int) - 1 = 9 from rfl, HI.out] at he; subst he)
        go_roundw
        case rel => exact ⟨k + 1, by omega, by go_num, by rw [HE.out], trivial⟩
        case measure => simp [intOf]; omega
    · have e : k = n := by omega
      subst e
      rw [List.take_of_length_le (by rw [hl.out]; exact Nat.le_refl _)]
      go_wp2
      go_ret
      exact ⟨rfl, rfl⟩
theorem all_any {w : World} {n : Int} {f : Nat → Nat} (h0 : 0 ≤ n) (h1 : n ≤ 10) :
    Calls Tryd.prog 43 #[.agg (arC n f)] w (fun e w' => e = .returned (.int .u16 (alB n : Nat)) ∧ Below w.heap.size w w') := by
  have hb1 : Below w.heap.size w (w.alloc (Obj.cells (arC n f) 49)) := (Below.refl _ _).alloc (Nat.le_refl _) _
  have bx := Bx.made w 49 (arC n f)
  have c0 := bx.at_ (k := 0) (v := .int .i64 n) rfl
  obtain ⟨W1, hW⟩ : ∃ u : World, u = w.alloc (Obj.cells (arC n f) 49) := ⟨_, rfl⟩
  rw [← hW] at hb1 c0
  have hW' := hW.symm
  obtain ⟨k, rfl⟩ := Int.eq_ofNat_of_zero_le h0
  have hk : k < 11 := by omega
  have HE : IntKind.u16.wrap (IntKind.u16.wrap (2 ^ k) - 1) = ((alB (k : Int) : Nat) : Int) := by
    have : k = 0 ∨ k = 1 ∨ k = 2 ∨ k = 3 ∨ k = 4 ∨ k = 5 ∨ k = 6 ∨ k = 7 ∨ k = 8 ∨ k = 9 ∨ k = 10 := by omega
    rcases this with rfl | rfl | rfl | rfl | rfl | rfl | rfl | rfl | rfl | rfl | rfl <;> rfl
  have HE' := Lib.hid HE
  clear HE hW bx
  go_enter Tryd.func43, Tryd.ntmps43
  go_wp2_with fail
  go_ret
  exact ⟨by rw [HE'.out]; rfl, hb1⟩
/-- The rows as an array. -/
def arV (f : Nat → Nat) : Array Value := #[.int .u16 (f 0 : Nat), .int .u16 (f 1 : Nat), .int .u16 (f 2 : Nat), .int .u16 (f 3 : Nat), .int .u16 (f 4 : Nat), .int .u16 (f 5 : Nat), .int .u16 (f 6 : Nat), .int .u16 (f 7 : Nat), .int .u16 (f 8 : Nat), .int .u16 (f 9 : Nat)]
theorem arV_at (f : Nat → Nat) {a : Nat} (ha : a < 10) : (arV f)[a]? = some (.int .u16 (f a : Nat)) := by
  rcases lt10 ha with rfl | rfl | rfl | rfl | rfl | rfl | rfl | rfl | rfl | rfl <;> rfl
theorem CB_infoF : (Tryd.prog.info? 46).map (fun i => (i.zero, i.size, i.bytes)) = some (some (.int .u16 0), 1, 2) := by kernel_rfl
theorem idxAR {cs : Array Value} {k : Nat} {v : Value} (w : World) (hk : k < 10) (hv : cs[k]? = some v) : (Instr.index 47 (.agg cs) (.int .i64 k)).run Tryd.prog w = .ok v w := by
  obtain ⟨i2, hi2, _, hz2, _⟩ := info_parts CB_infoF
  have h0 : (0 : Int) ≤ (k : Int) ∧ (k : Int) < 10 := by omega
  simp [Instr.index, run_underlying Tryd.underlying47, run_underlying Tryd.underlying46, asIntOf, h0, hk, part, isAgg, Sem.run_bind, sizeOf, typeInfo, hi2, hz2, hv]
set_option maxHeartbeats 2000000 in
theorem hitBits_any {w : World} {n : Int} {f : Nat → Nat} {x : Nat} (hf : ∀ a, f a < 65536) (hx : x < 65536) :
    Calls Tryd.prog 62 #[.agg (arC n f), .int .u16 x] w (fun e w' => e = .returned (.int .u16 (hB f x 10 : Nat)) ∧ Below w.heap.size w w') := by
  have hb1 : Below w.heap.size w (w.alloc (Obj.cells (arC n f) 49)) := (Below.refl _ _).alloc (Nat.le_refl _) _
  have bx := Bx.made w 49 (arC n f)
  obtain ⟨c0, c1, c2, c3, c4, c5, c6, c7, c8, c9, c10⟩ := bx.eleven
  obtain ⟨W1, hW⟩ : ∃ u : World, u = w.alloc (Obj.cells (arC n f) 49) := ⟨_, rfl⟩
  rw [← hW] at hb1 c0 c1 c2 c3 c4 c5 c6 c7 c8 c9 c10
  have hW' := hW.symm
  clear hW bx
  go_enter Tryd.func62, Tryd.ntmps62
  go_wp2_with fail
  go_loopw [5, 10] (fun b i wr => ∃ k : Nat, k ≤ 10 ∧ i = .int .i64 k ∧ b = .int .u16 (hB f x k : Nat) ∧ wr = W1) (fun _ i _ => 10 - (intOf i).toNat)
  case atStart => exact ⟨0, Nat.zero_le _, rfl, rfl, rfl⟩
  case round =>
    obtain ⟨k, hk, rfl, rfl, rfl⟩ := hrel
    have hxk := hB_lt hf x k
    by_cases hlt : k < 10
    · have hv := arV_at f hlt
      have hfk := hf k
      have i0 : (0 : Int) ≤ (k : Int) := by omega
      have i1 : (k : Int) < 10 := by omega
      have e1 : inr (k : Int) 0 9 = true := inr_t (by omega) (by omega)
      have hidx := idxAR wr hlt hv
      unfold arV at hidx
      clear hv
      by_cases hb : x.testBit k = true
      · have HB := Lib.hid (show (inr (k : Int) 0 9 && x.testBit (k : Int).toNat) = true by rw [e1, Int.toNat_natCast, hb]; rfl)
        have HT := Lib.hid (hB_yes (f := f) hb)
        obtain ⟨y, hy⟩ : ∃ y, y = hB f x k := ⟨_, rfl⟩
        rw [← hy] at hxk HT ⊢
        have HO := Lib.hid (u16_or_nat y (f k) hxk hfk)
        clear hy hb e1
        go_wp2_with (go_at_call 44; refine (has_any hx).mono ?_; rintro e w1 ⟨he, rfl⟩; rw [HB.out] at he; subst he)
        rw [HO.out]
        go_roundw
        case rel => exact ⟨k + 1, by omega, by go_num, by rw [HT.out], trivial⟩
        case measure => simp [intOf]; omega
      · have hb' : x.testBit k = false := by simpa using hb
        have HB := Lib.hid (show (inr (k : Int) 0 9 && x.testBit (k : Int).toNat) = false by rw [e1, Int.toNat_natCast, hb']; rfl)
        have HT := Lib.hid (hB_no (f := f) hb')
        obtain ⟨y, hy⟩ : ∃ y, y = hB f x k := ⟨_, rfl⟩
        rw [← hy] at hxk HT ⊢
        clear hy hb hb' e1
        go_wp2_with (go_at_call 44; refine (has_any hx).mono ?_; rintro e w1 ⟨he, rfl⟩; rw [HB.out] at he; subst he)
        go_roundw
        case rel => exact ⟨k + 1, by omega, by go_num, by rw [HT.out], trivial⟩
        case measure => simp [intOf]; omega
    · have e : k = 10 := by omega
      subst e
      go_wp2
      go_ret
      exact ⟨rfl, hb1⟩
theorem u16_anB {a b : Nat} (ha : a < 65536) (hb : b < 65536) : bits .andNot .u16 (a : Int) (b : Int) = ((anB a b : Nat) : Int) := u16_andNot_nat a b ha hb
theorem Bx.eleven_new {w w' : World} {g : Nat} {t : TypeId} {n : Int} {f : Nat → Nat} (h : Bx w g t (arC n f)) (hb : Below w.heap.size w w') :
    Below w.heap.size w w' ∧ w'.cell? ⟨g, 0, none⟩ = some (.int .i64 n) ∧ w'.cell? ⟨g, 1, none⟩ = some (.int .u16 (f 0 : Nat)) ∧ w'.cell? ⟨g, 2, none⟩ = some (.int .u16 (f 1 : Nat)) ∧ w'.cell? ⟨g, 3, none⟩ = some (.int .u16 (f 2 : Nat)) ∧ w'.cell? ⟨g, 4, none⟩ = some (.int .u16 (f 3 : Nat)) ∧ w'.cell? ⟨g, 5, none⟩ = some (.int .u16 (f 4 : Nat)) ∧ w'.cell? ⟨g, 6, none⟩ = some (.int .u16 (f 5 : Nat)) ∧ w'.cell? ⟨g, 7, none⟩ = some (.int .u16 (f 6 : Nat)) ∧ w'.cell? ⟨g, 8, none⟩ = some (.int .u16 (f 7 : Nat)) ∧ w'.cell? ⟨g, 9, none⟩ = some (.int .u16 (f 8 : Nat)) ∧ w'.cell? ⟨g, 10, none⟩ = some (.int .u16 (f 9 : Nat)) :=
  ⟨hb, (h.new hb).eleven⟩
set_option maxHeartbeats 4000000 in
theorem defBits_any {w : World} {n : Int} {f : Nat → Nat} {x : Nat} (h0 : 0 ≤ n) (h1 : n ≤ 10) (hf : ∀ a, f a < 65536) (hx : x < 65536) :
    Calls Tryd.prog 57 #[.agg (arC n f), .int .u16 x] w (fun e w' => e = .returned (.int .u16 (dB n f x : Nat)) ∧ Below w.heap.size w w') := by
  have hb1 : Below w.heap.size w (w.alloc (Obj.cells (arC n f) 49)) := (Below.refl _ _).alloc (Nat.le_refl _) _
  have bx := Bx.made w 49 (arC n f)
  obtain ⟨W1, hW⟩ : ∃ u : World, u = w.alloc (Obj.cells (arC n f) 49) := ⟨_, rfl⟩
  have hs1 : W1.heap.size = w.heap.size + 1 := by rw [hW]; simp
  rw [← hW] at hb1 bx
  have hW' := hW.symm
  obtain ⟨c0, c1, c2, c3, c4, c5, c6, c7, c8, c9, c10⟩ := bx.eleven
  generalize hg : w.heap.size = g at *
  clear hW
  go_enter Tryd.func57, Tryd.ntmps57
  go_wp2_with fail
  go_region_held3 (fun w' => Below W1.heap.size W1 w' ∧ w'.cell? ⟨g, 0, none⟩ = some (.int .i64 n) ∧ w'.cell? ⟨g, 1, none⟩ = some (.int .u16 (f 0 : Nat)) ∧ w'.cell? ⟨g, 2, none⟩ = some (.int .u16 (f 1 : Nat)) ∧ w'.cell? ⟨g, 3, none⟩ = some (.int .u16 (f 2 : Nat)) ∧ w'.cell? ⟨g, 4, none⟩ = some (.int .u16 (f 3 : Nat)) ∧ w'.cell? ⟨g, 5, none⟩ = some (.int .u16 (f 4 : Nat)) ∧ w'.cell? ⟨g, 6, none⟩ = some (.int .u16 (f 5 : Nat)) ∧ w'.cell? ⟨g, 7, none⟩ = some (.int .u16 (f 6 : Nat)) ∧ w'.cell? ⟨g, 8, none⟩ = some (.int .u16 (f 7 : Nat)) ∧ w'.cell? ⟨g, 9, none⟩ = some (.int .u16 (f 8 : Nat)) ∧ w'.cell? ⟨g, 10, none⟩ = some (.int .u16 (f 9 : Nat))) (first | exact bx.eleven_new (Below.refl _ _) | exact bx.eleven_new ((Below.refl _ _).drew) | assumption | exact bx.eleven_new k9 | exact bx.eleven_new (Below.drew k9) | exact bx.eleven_new (Below.drew (‹Below W1.heap.size W1 _ ∧ _›).1))
    (first
      | (go_at_call 43; refine (all_any (n := n) (f := f) h0 h1).mono ?_; rintro e u9 ⟨rfl, hb9⟩; have k9 := trans_new (‹Below W1.heap.size W1 _ ∧ _›).1 hb9)
      | (go_at_call 62; refine (hitBits_any (n := n) (f := f) (x := x) hf hx).mono ?_; rintro e u9 ⟨rfl, hb9⟩; have k9 := trans_new (‹Below W1.heap.size W1 _ ∧ _›).1 hb9))
  rw [u16_anB (Nat.lt_trans (alB_lt h1) (by decide)) (hB_lt hf x 10)]
  have hy := Nat.lt_trans (lfB_lt h1 f x) (show 1024 < 65536 by decide)
  have HD := Lib.hid (show dB n f x = anB (alB n) (hB f (lfB n f x) 10) from rfl)
  rw [show anB (alB n) (hB f x 10) = lfB n f x from rfl]
  generalize lfB n f x = y at hy HD ⊢
  have K0 := k9
  obtain ⟨_, d0, d1, d2, d3, d4, d5, d6, d7, d8, d9, d10⟩ := bx.eleven_new K0
  clear k9
  clear hb9
  go_wp2_with fail
  go_region_held3 (fun w' => Below W1.heap.size W1 w' ∧ w'.cell? ⟨g, 0, none⟩ = some (.int .i64 n) ∧ w'.cell? ⟨g, 1, none⟩ = some (.int .u16 (f 0 : Nat)) ∧ w'.cell? ⟨g, 2, none⟩ = some (.int .u16 (f 1 : Nat)) ∧ w'.cell? ⟨g, 3, none⟩ = some (.int .u16 (f 2 : Nat)) ∧ w'.cell? ⟨g, 4, none⟩ = some (.int .u16 (f 3 : Nat)) ∧ w'.cell? ⟨g, 5, none⟩ = some (.int .u16 (f 4 : Nat)) ∧ w'.cell? ⟨g, 6, none⟩ = some (.int .u16 (f 5 : Nat)) ∧ w'.cell? ⟨g, 7, none⟩ = some (.int .u16 (f 6 : Nat)) ∧ w'.cell? ⟨g, 8, none⟩ = some (.int .u16 (f 7 : Nat)) ∧ w'.cell? ⟨g, 9, none⟩ = some (.int .u16 (f 8 : Nat)) ∧ w'.cell? ⟨g, 10, none⟩ = some (.int .u16 (f 9 : Nat))) (first | exact bx.eleven_new K0 | exact bx.eleven_new (Below.drew K0) | exact bx.eleven_new ((Below.refl _ _).drew) | assumption | exact bx.eleven_new k9 | exact bx.eleven_new (Below.drew k9) | exact bx.eleven_new (Below.drew (‹Below W1.heap.size W1 _ ∧ _›).1))
    (first
      | (go_at_call 43; refine (all_any (n := n) (f := f) h0 h1).mono ?_; rintro e u9 ⟨rfl, hb9⟩; have k9 := trans_new (‹Below W1.heap.size W1 _ ∧ _›).1 hb9)
      | (go_at_call 62; refine (hitBits_any (n := n) (f := f) (x := y) hf hy).mono ?_; rintro e u9 ⟨rfl, hb9⟩; have k9 := trans_new (‹Below W1.heap.size W1 _ ∧ _›).1 hb9))
  rw [u16_anB (Nat.lt_trans (alB_lt h1) (by decide)) (hB_lt hf y 10), ← HD.out]
  go_wp2_with fail
  go_ret
  exact ⟨rfl, hb1.trans (k9.mono (by omega))⟩
end Go.Proofs.YtjhknafajfpldaaDoor
