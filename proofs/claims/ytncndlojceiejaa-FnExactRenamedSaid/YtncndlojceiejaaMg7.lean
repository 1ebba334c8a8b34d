/- Contract of the model of IsStable. No conditions but that the slices have at most 2^40 elements. -/
import Derived.Test.YtncndlojceiejaaMg6
namespace Go.Proofs.Ytncndlojceiejaa
open Go.ChangeShapes Go.WideShapes Go.ChangeAt Go.RowKit
set_option maxRecDepth 100000
def outP (N : Int) (X : List (List Int)) (S : List Int) (k : Nat) : Bool := !(S.contains (k : Int)) && !((hit N X S).contains (k : Int))
/-- Whether a set is stable. -/
def stabB (N : Int) (X : List (List Int)) (S : List Int) : Bool := !(setB N X S && (List.range N.toNat).any (outP N X S)) && freeB N X S
theorem range_any {f : Nat → Bool} {k : Nat} : (List.range (k + 1)).any f = ((List.range k).any f || f k) := by
  rw [List.range_succ, List.any_append]; simp
end Go.Proofs.Ytncndlojceiejaa

/- Greater sets defend more; what the empty set defends, step by step: sums without code. -/
namespace Go.Proofs.Ytncndlojceiejaa
theorem setB_iff {n : Nat} {X : List (List Int)} {S : List Int} (hg : gB n X = true) : setB n X S = true ↔ S.Pairwise (· < ·) ∧ ∀ z ∈ S, 0 ≤ z ∧ z < (n : Int) := by
  unfold setB
  rw [hg, Bool.true_and, decide_eq_true_iff]
  have part : ∀ (i : Nat) (hi : i < S.length), (okS n S i = true ↔ (0 ≤ S[i]'hi ∧ S[i]'hi < (n : Int)) ∧ (i = 0 ∨ S.getD (i - 1) 0 < S[i]'hi)) := fun i hi => by
    unfold okS
    rw [getD_i hi]
    simp [inr]
    omega
  constructor
  · intro h
    refine ⟨?_, fun z hz => ?_⟩
    · rw [List.pairwise_iff_getElem]
      have key : ∀ d i (h1 : i < S.length) (h2 : i + 1 + d < S.length), S[i] < S[i + 1 + d] := by
        intro d
        induction d with
        | zero =>
          intro i h1 h2
          rcases ((part (i + 1) h2).1 (h (i + 1) h2)).2 with h' | h'
          · omega
          · rw [show i + 1 - 1 = i by omega, getD_i h1] at h'
            exact h'
        | succ d ih =>
          intro i h1 h2
          have a := ih i h1 (by omega)
          rcases ((part (i + 1 + (d + 1)) h2).1 (h (i + 1 + (d + 1)) h2)).2 with h' | h'
          · omega
          · rw [show i + 1 + (d + 1) - 1 = i + 1 + d by omega, getD_i (by omega)] at h'
            exact Int.lt_trans a h'
      intro i j hi hj hij
      obtain ⟨d, rfl⟩ : ∃ d, j = i + 1 + d := ⟨j - (i + 1), by omega⟩
      exact key d i hi hj
    · obtain ⟨i, hi, rfl⟩ := List.getElem_of_mem hz
      exact ((part i hi).1 (h i hi)).1
  · rintro ⟨hp, hr⟩ i hi
    rw [List.pairwise_iff_getElem] at hp
    refine (part i hi).2 ⟨hr _ (List.getElem_mem hi), ?_⟩
    by_cases h0 : i = 0
    · exact .inl h0
    · right
      rw [getD_i (by omega)]
      exact hp (i - 1) i (by omega) hi (by omega)
theorem hit_mem {n : Nat} {X : List (List Int)} {S : List Int} (hg : gB n X = true) (hp : Prs n X) (z : Int) : z ∈ hit n X S ↔ ∃ c ∈ S, [c, z] ∈ X := by
  unfold hit
  rw [if_pos hg, Int.toNat_natCast, hitL, List.mem_map]
  constructor
  · rintro ⟨j, hj, rfl⟩
    rw [List.mem_filter] at hj
    have ht := hj.2
    unfold hitP at ht
    rw [List.any_eq_true] at ht
    obtain ⟨x, hx, ht⟩ := ht
    obtain ⟨p, q, rfl, _, _⟩ := hp x hx
    simp at ht
    obtain ⟨e1, e2⟩ := ht
    exact ⟨p, e2, by rw [← e1]; exact hx⟩
  · rintro ⟨c, hc, hx⟩
    obtain ⟨p, q, e, _, hq⟩ := hp _ hx
    injection e with e1 e2
    injection e2 with e2 _
    subst e2
    refine ⟨q, List.mem_filter.2 ⟨List.mem_range.2 hq, ?_⟩, rfl⟩
    unfold hitP
    rw [List.any_eq_true]
    exact ⟨_, hx, by simp [hc]⟩
theorem defB_iff {n : Nat} {X : List (List Int)} {S : List Int} (hg : gB n X = true) (hp : Prs n X) (c : Int) : defB n X S c = true ↔ setB n X S = true ∧ (0 ≤ c ∧ c < (n : Int)) ∧ ∀ z, [z, c] ∈ X → z ∈ hit n X S := by
  unfold defB
  rw [Bool.and_eq_true, Bool.and_eq_true, Bool.not_eq_true', List.any_eq_false]
  have hi : inr c 0 ((n : Int) - 1) = true ↔ 0 ≤ c ∧ c < (n : Int) := by simp [inr]; omega
  rw [hi]
  constructor
  · rintro ⟨⟨h1, h2⟩, h3⟩
    refine ⟨h1, h2, fun z hz => ?_⟩
    have := h3 z ((atk_mem hg hp c z).2 hz)
    simpa using this
  · rintro ⟨h1, h2, h3⟩
    refine ⟨⟨h1, h2⟩, fun z hz => ?_⟩
    have := h3 z ((atk_mem hg hp c z).1 hz)
    simpa using this
theorem defL_mem {n : Nat} {X : List (List Int)} {S : List Int} (hg : gB n X = true) (hp : Prs n X) (z : Int) : z ∈ defL n X S ↔ defB n X S z = true := by
  unfold defL
  by_cases hs : setB n X S = true
  · rw [if_pos hs, Int.toNat_natCast, defT, List.mem_map]
    constructor
    · rintro ⟨j, hj, rfl⟩
      exact (List.mem_filter.1 hj).2
    · intro h
      obtain ⟨_, ⟨h0, h1⟩, _⟩ := (defB_iff hg hp z).1 h
      obtain ⟨k, rfl⟩ := Int.eq_ofNat_of_zero_le h0
      exact ⟨k, List.mem_filter.2 ⟨List.mem_range.2 (by omega), h⟩, rfl⟩
  · rw [if_neg hs]
    constructor
    · intro h; cases h
    · intro h; exact absurd ((defB_iff hg hp z).1 h).1 hs
theorem defL_asc (N : Int) (X : List (List Int)) (S : List Int) : (defL N X S).Pairwise (· < ·) := by
  unfold defL
  split
  · exact range_asc _ _
  · exact List.Pairwise.nil
theorem defL_len {n : Nat} {X : List (List Int)} {S : List Int} : (defL n X S).length ≤ n := by
  unfold defL
  split
  · exact defT_len _ _ _ _
  · simp
theorem defL_set {n : Nat} {X : List (List Int)} {S : List Int} (hg : gB n X = true) (hp : Prs n X) : setB n X (defL n X S) = true :=
  (setB_iff hg).2 ⟨defL_asc _ _ _, fun z hz => ((defB_iff hg hp z).1 ((defL_mem hg hp z).1 hz)).2.1⟩
/-- Greater sets defend more. -/
theorem defL_mono {n : Nat} {X : List (List Int)} {S S' : List Int} (hg : gB n X = true) (hp : Prs n X) (hs : ∀ z ∈ S, z ∈ S') (h' : setB n X S' = true) : ∀ z ∈ defL n X S, z ∈ defL n X S' := fun z hz => by
  rw [defL_mem hg hp, defB_iff hg hp] at hz ⊢
  refine ⟨h', hz.2.1, fun y hy => ?_⟩
  obtain ⟨c, hc, hx⟩ := (hit_mem hg hp y).1 (hz.2.2 y hy)
  exact (hit_mem hg hp y).2 ⟨c, hs c hc, hx⟩
theorem sub_sorted {xs ys : List Int} (hx : xs.Pairwise (· < ·)) (hy : ys.Pairwise (· < ·)) (h : ∀ z ∈ xs, z ∈ ys) : xs.Sublist ys := by
  induction ys generalizing xs with
  | nil =>
    cases xs with
    | nil => exact List.Sublist.slnil
    | cons x xs => exact absurd (h x (by simp)) (by simp)
  | cons y ys ih =>
    cases xs with
    | nil => exact List.nil_sublist _
    | cons x xs =>
      rw [List.pairwise_cons] at hy
      have hx' := hx
      rw [List.pairwise_cons] at hx'
      by_cases e : x = y
      · subst e
        refine List.Sublist.cons_cons _ (ih hx'.2 hy.2 (fun z hz => ?_))
        rcases List.mem_cons.1 (h z (by simp [hz])) with e | h'
        · subst e; exact absurd (hx'.1 _ hz) (Int.lt_irrefl _)
        · exact h'
      · refine List.Sublist.cons _ (ih hx hy.2 (fun z hz => ?_))
        have hxy : x ∈ ys := by
          rcases List.mem_cons.1 (h x (by simp)) with e' | h'
          · exact absurd e' e
          · exact h'
        have hlt := hy.1 x hxy
        have hyz : y < z := by
          rcases List.mem_cons.1 hz with rfl | hz
          · exact hlt
          · exact Int.lt_trans hlt (hx'.1 z hz)
        rcases List.mem_cons.1 (h z hz) with e' | h'
        · omega
        · exact h'
/-- What stands after k steps. -/
def itS (N : Int) (X : List (List Int)) : Nat → List Int
  | 0 => []
  | k + 1 => defL N X (itS N X k)
theorem it_set {n : Nat} {X : List (List Int)} (hg : gB n X = true) (hp : Prs n X) : ∀ k, setB n X (itS n X k) = true
  | 0 => (setB_iff hg).2 ⟨List.Pairwise.nil, fun z hz => by cases hz⟩
  | _ + 1 => defL_set hg hp
theorem it_mono {n : Nat} {X : List (List Int)} (hg : gB n X = true) (hp : Prs n X) : ∀ k, ∀ z ∈ itS n X k, z ∈ itS n X (k + 1)
  | 0, z, hz => by cases hz
  | k + 1, z, hz => defL_mono hg hp (it_mono hg hp k) (it_set hg hp (k + 1)) z hz
theorem it_asc (N : Int) (X : List (List Int)) : ∀ k, (itS N X k).Pairwise (· < ·)
  | 0 => List.Pairwise.nil
  | _ + 1 => defL_asc _ _ _
theorem it_len {n : Nat} {X : List (List Int)} : ∀ k, (itS n X k).length ≤ n
  | 0 => Nat.zero_le _
  | _ + 1 => defL_len
theorem it_grow {n : Nat} {X : List (List Int)} (hg : gB n X = true) (hp : Prs n X) {k : Nat} (h : itS n X (k + 1) ≠ itS n X k) : (itS n X k).length < (itS n X (k + 1)).length := by
  have hs := sub_sorted (it_asc n X k) (it_asc n X (k + 1)) (it_mono hg hp k)
  rcases Nat.lt_or_eq_of_le hs.length_le with h' | h'
  · exact h'
  · exact absurd (hs.eq_of_length h').symm h
theorem it_stay {N : Int} {X : List (List Int)} {k : Nat} (h : itS N X (k + 1) = itS N X k) : ∀ j, itS N X (k + j) = itS N X k
  | 0 => rfl
  | j + 1 => by
    have ih := it_stay h j
    rw [← Nat.add_assoc]
    show defL N X (itS N X (k + j)) = itS N X k
    rw [ih]
    exact h
/-- What stands in any case. -/
def grd (N : Int) (X : List (List Int)) : List Int := itS N X 10
theorem it_many {n : Nat} {X : List (List Int)} (hg : gB n X = true) (hp : Prs n X) : ∀ k, (∀ j, j < k → itS n X (j + 1) ≠ itS n X j) → k ≤ (itS n X k).length
  | 0, _ => Nat.zero_le _
  | k + 1, h => by
    have ih := it_many hg hp k (fun j hj => h j (by omega))
    have := it_grow hg hp (h k (by omega))
    omega
theorem it_fix {n : Nat} {X : List (List Int)} (hg : gB n X = true) {k : Nat} (hgrow : ∀ j, j < k → itS n X (j + 1) ≠ itS n X j) (h : itS n X (k + 1) = itS n X k) : itS n X k = grd n X := by
  obtain ⟨m, e, hm, hp, _⟩ := gB_ok hg
  obtain rfl : n = m := by omega
  have h1 := it_many hg hp k hgrow
  have h2 := it_len (n := n) (X := X) k
  obtain ⟨j, hj⟩ : ∃ j, 10 = k + j := ⟨10 - k, by omega⟩
  unfold grd
  rw [hj]
  exact (it_stay h j).symm
theorem defL_none {N : Int} {X : List (List Int)} (S : List Int) (h : gB N X = false) : defL N X S = [] := by
  unfold defL setB
  rw [h]
  rfl
theorem it_none {N : Int} {X : List (List Int)} (h : gB N X = false) : ∀ k, itS N X k = []
  | 0 => rfl
  | _ + 1 => defL_none _ h
end Go.Proofs.Ytncndlojceiejaa
