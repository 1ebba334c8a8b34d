/- The rows of a valid graph say the same as its pairs: sums without code. -/
import Derived.Test.YtdpaoaoipnoiiaaBits2
import Derived.Test.YtdpaoaoipnoiiaaGraphFns
namespace Go.Proofs.Ytdpaoaoipnoiiaa
theorem sorted_ext {α : Type} {lt : α → α → Prop} (irr : ∀ a, ¬ lt a a) (tr : ∀ a b c, lt a b → lt b c → lt a c) : ∀ {xs ys : List α}, xs.Pairwise lt → ys.Pairwise lt → (∀ x, x ∈ xs ↔ x ∈ ys) → xs = ys
  | [], [], _, _, _ => rfl
  | [], y :: ys, _, _, h => absurd ((h y).2 (by simp)) (by simp)
  | x :: xs, [], _, _, h => absurd ((h x).1 (by simp)) (by simp)
  | x :: xs, y :: ys, hx, hy, h => by
    rw [List.pairwise_cons] at hx hy
    have e : x = y := by
      rcases List.mem_cons.1 ((h x).1 (by simp)) with e | hxy
      · exact e
      · rcases List.mem_cons.1 ((h y).2 (by simp)) with e | hyx
        · exact e.symm
        · exact absurd (tr _ _ _ (hy.1 x hxy) (hx.1 y hyx)) (irr y)
    subst e
    congr 1
    refine sorted_ext irr tr hx.2 hy.2 (fun z => ⟨fun hz => ?_, fun hz => ?_⟩)
    · rcases List.mem_cons.1 ((h z).1 (by simp [hz])) with e | h'
      · subst e; exact absurd (hx.1 _ hz) (irr _)
      · exact h'
    · rcases List.mem_cons.1 ((h z).2 (by simp [hz])) with e | h'
      · subst e; exact absurd (hy.1 _ hz) (irr _)
      · exact h'
theorem ltP_iff (x y : List Int) : ltP x y = true ↔ (x.getD 0 0 < y.getD 0 0 ∨ x.getD 0 0 = y.getD 0 0 ∧ x.getD 1 0 < y.getD 1 0) := by
  unfold ltP
  simp only [Bool.not_eq_true', Bool.or_eq_false_iff, Bool.and_eq_false_iff, decide_eq_false_iff_not]
  omega
theorem ltP_irr (x : List Int) : ¬ ltP x x = true := by rw [ltP_iff]; omega
theorem ltP_tr (x y z : List Int) (h : ltP x y = true) (k : ltP y z = true) : ltP x z = true := by rw [ltP_iff] at *; omega
/-- Pairs of claims below n. -/
def Prs (n : Nat) (X : List (List Int)) : Prop := ∀ x ∈ X, ∃ p q : Nat, x = [(p : Int), (q : Int)] ∧ p < n ∧ q < n
def Asc (X : List (List Int)) : Prop := X.Pairwise fun x y => ltP x y = true
theorem okI_parts {M : Int} {X : List (List Int)} {k : Nat} (h : okI M X k = true) (hk : k < X.length) : (X[k].length = 2 ∧ (0 ≤ X[k].getD 0 0 ∧ X[k].getD 0 0 ≤ M) ∧ (0 ≤ X[k].getD 1 0 ∧ X[k].getD 1 0 ≤ M)) ∧ (k = 0 ∨ ltP (X.getD (k - 1) []) X[k] = true) := by
  unfold okI okA at h
  rw [getD_at hk] at h
  simpa [inr, and_assoc] using h
theorem gB_ok {N : Int} {X : List (List Int)} (h : gB N X = true) : ∃ n : Nat, N = n ∧ n ≤ 10 ∧ Prs n X ∧ Asc X := by
  unfold gB at h
  simp only [Bool.and_eq_true, decide_eq_true_eq] at h
  obtain ⟨hp, hN⟩ := h
  have hN' : 0 ≤ N ∧ N ≤ 10 := by simpa [inr] using hN
  obtain ⟨n, rfl⟩ := Int.eq_ofNat_of_zero_le hN'.1
  have hM : IntKind.i64.wrap ((n : Int) - 1) = (n : Int) - 1 := IntWalk.i64_in _ (by omega)
  rw [hM] at hp
  refine ⟨n, rfl, by omega, ?_, ?_⟩
  · intro x hx
    obtain ⟨i, hi, rfl⟩ := List.getElem_of_mem hx
    obtain ⟨⟨h2, h3, h4⟩, _⟩ := okI_parts (hp i hi) hi
    match hxx : X[i], h2 with
    | [p, q], _ =>
      rw [hxx] at h3 h4
      simp at h3 h4
      exact ⟨p.toNat, q.toNat, by rw [Int.toNat_of_nonneg (by omega), Int.toNat_of_nonneg (by omega)], by omega, by omega⟩
  · unfold Asc
    rw [List.pairwise_iff_getElem]
    have key : ∀ d i (h1 : i < X.length) (h2 : i + 1 + d < X.length), ltP X[i] X[i + 1 + d] = true := by
      intro d
      induction d with
      | zero =>
        intro i h1 h2
        rcases (okI_parts (hp (i + 1) h2) h2).2 with h | h
        · omega
        · rw [show i + 1 - 1 = i by omega, getD_at h1] at h
          exact h
      | succ d ih =>
        intro i h1 h2
        have a := ih i h1 (by omega)
        rcases (okI_parts (hp (i + 1 + (d + 1)) h2) h2).2 with h | h
        · omega
        · rw [show i + 1 + (d + 1) - 1 = i + 1 + d by omega, getD_at (by omega)] at h
          exact ltP_tr _ _ _ a h
    intro i j hi hj hij
    obtain ⟨d, rfl⟩ : ∃ d, j = i + 1 + d := ⟨j - (i + 1), by omega⟩
    exact key d i hi hj
theorem gB_of {n : Nat} {X : List (List Int)} (hn : n ≤ 10) (hp : Prs n X) (ha : Asc X) : gB n X = true := by
  unfold gB
  simp only [Bool.and_eq_true, decide_eq_true_eq]
  have hM : IntKind.i64.wrap ((n : Int) - 1) = (n : Int) - 1 := IntWalk.i64_in _ (by omega)
  rw [hM]
  refine ⟨fun i hi => ?_, inr_t (by omega) (by omega)⟩
  unfold okI okA
  rw [getD_at hi]
  obtain ⟨p, q, hx, h1, h2⟩ := hp X[i] (List.getElem_mem hi)
  rw [hx]
  by_cases h0 : i = 0
  · simp [inr, h0]; omega
  · have ha' := ha
    unfold Asc at ha'
    rw [List.pairwise_iff_getElem] at ha'
    have := ha' (i - 1) i (by omega) hi (by omega)
    rw [hx] at this
    rw [getD_at (by omega), this]
    simp [inr]; omega
/-- The rows of the pairs. -/
def att (X : List (List Int)) : Nat → Nat := X.foldl (fun f x => upd f (x.getD 0 0).toNat (x.getD 1 0).toNat) fun _ => 0
theorem att_snoc (X : List (List Int)) (x : List Int) : att (X ++ [x]) = upd (att X) (x.getD 0 0).toNat (x.getD 1 0).toNat := by simp [att, List.foldl_append]
theorem upd_bit (f : Nat → Nat) (p q a b : Nat) : (upd f p q a).testBit b = ((f a).testBit b || (decide (p = a) && decide (q = b))) := by
  unfold upd
  by_cases h : a = p
  · subst h; simp [Nat.testBit_or, Nat.testBit_two_pow]
  · have : ¬ p = a := fun e => h e.symm
    simp [h, this]
theorem upd_lt {f : Nat → Nat} {p q : Nat} (hf : ∀ a, f a < 2 ^ 10) (hq : q < 10) (a : Nat) : upd f p q a < 2 ^ 10 := by
  unfold upd
  split
  · exact Nat.or_lt_two_pow (hf a) (Nat.pow_lt_pow_right (by omega) hq)
  · exact hf a
theorem att_bit (X : List (List Int)) (a b : Nat) : (att X a).testBit b = X.any fun x => decide ((x.getD 0 0).toNat = a) && decide ((x.getD 1 0).toNat = b) := by
  have key : ∀ (X : List (List Int)) (f : Nat → Nat), ((X.foldl (fun f x => upd f (x.getD 0 0).toNat (x.getD 1 0).toNat) f) a).testBit b = ((f a).testBit b || X.any fun x => decide ((x.getD 0 0).toNat = a) && decide ((x.getD 1 0).toNat = b)) := by
    intro X
    induction X with
    | nil => simp
    | cons x X ih => intro f; rw [List.foldl_cons, ih, upd_bit, List.any_cons, Bool.or_assoc]
  rw [att, key]; simp
theorem att_lt {n : Nat} {X : List (List Int)} (hn : n ≤ 10) (hp : Prs n X) (a : Nat) : att X a < 2 ^ 10 := by
  have key : ∀ (X : List (List Int)) (f : Nat → Nat), Prs n X → (∀ a, f a < 2 ^ 10) → ∀ a, (X.foldl (fun f x => upd f (x.getD 0 0).toNat (x.getD 1 0).toNat) f) a < 2 ^ 10 := by
    intro X
    induction X with
    | nil => intro f _ h; exact h
    | cons x X ih =>
      intro f hp h
      obtain ⟨p, q, hx, _, h2⟩ := hp x (by simp)
      rw [List.foldl_cons]
      exact ih _ (fun y hy => hp y (by simp [hy])) (fun a => upd_lt h (by rw [hx]; simp; omega) a)
  exact key X _ hp (fun _ => by simp) a
theorem Prs.take {n : Nat} {X : List (List Int)} (h : Prs n X) (k : Nat) : Prs n (X.take k) := fun x hx => h x (List.mem_of_mem_take hx)
theorem att_mem {n : Nat} {X : List (List Int)} (hp : Prs n X) (a b : Nat) : (att X a).testBit b = true ↔ [(a : Int), (b : Int)] ∈ X := by
  rw [att_bit, List.any_eq_true]
  constructor
  · rintro ⟨x, hx, h⟩
    obtain ⟨p, q, rfl, _, _⟩ := hp x hx
    simp at h
    obtain ⟨rfl, rfl⟩ := h
    exact hx
  · intro h
    exact ⟨_, h, by simp⟩
/-- The rows that the code keeps of a graph. -/
def rn (N : Int) (X : List (List Int)) : Int := if gB N X then N else 0
def rf (N : Int) (X : List (List Int)) : Nat → Nat := if gB N X then att X else fun _ => 0
theorem rf_lt (N : Int) (X : List (List Int)) (a : Nat) : rf N X a < 65536 := by
  unfold rf
  split
  · rename_i h
    obtain ⟨n, rfl, hn, hp, _⟩ := gB_ok h
    exact Nat.lt_trans (att_lt hn hp a) (by decide)
  · simp
theorem rn_le (N : Int) (X : List (List Int)) : 0 ≤ rn N X ∧ rn N X ≤ 10 := by
  unfold rn
  split
  · rename_i h
    obtain ⟨n, rfl, hn, _, _⟩ := gB_ok h
    omega
  · omega
theorem rf_mem {n : Nat} {X : List (List Int)} (h : gB n X = true) (hp : Prs n X) (a b : Nat) : (rf n X a).testBit b = true ↔ [(a : Int), (b : Int)] ∈ X := by
  unfold rf; rw [if_pos h]; exact att_mem hp a b
theorem vic_bit {n : Nat} {X : List (List Int)} (h : gB n X = true) (hp : Prs n X) (a : Int) (b : Nat) : (vic (rn n X) (rf n X) a).testBit b = true ↔ [a, (b : Int)] ∈ X := by
  have hr : rn n X = n := by unfold rn; rw [if_pos h]
  unfold vic
  rw [hr]
  by_cases ha : inr a 0 ((n : Int) - 1) = true
  · have ha' : 0 ≤ a ∧ a ≤ (n : Int) - 1 := by simpa [inr] using ha
    obtain ⟨k, rfl⟩ := Int.eq_ofNat_of_zero_le ha'.1
    rw [if_pos ha, Int.toNat_natCast]
    exact rf_mem h hp k b
  · rw [if_neg ha]
    constructor
    · simp
    · intro hm
      obtain ⟨p, q, e, h1, _⟩ := hp _ hm
      injection e with e1 e2
      exact absurd (inr_t (by omega) (by omega)) ha
theorem vic_not {N : Int} {X : List (List Int)} (h : gB N X = false) (a : Int) : vic (rn N X) (rf N X) a = 0 := by
  unfold vic rn rf
  rw [h]
  simp
theorem vic_lt (N : Int) (X : List (List Int)) (a : Int) : vic (rn N X) (rf N X) a < 65536 := by
  unfold vic
  split
  · exact rf_lt N X _
  · omega
/-- Whether one claim attacks another. -/
def dA (N : Int) (X : List (List Int)) (a b : Int) : Bool := gB N X && X.any fun x => x.getD 0 0 == a && x.getD 1 0 == b
theorem dA_code (N : Int) (X : List (List Int)) (a b : Int) : (inr b 0 9 && (vic (rn N X) (rf N X) a).testBit b.toNat) = dA N X a b := by
  by_cases h : gB N X = true
  · obtain ⟨n, rfl, hn, hp, _⟩ := gB_ok h
    rw [Bool.eq_iff_iff, Bool.and_eq_true]
    unfold dA
    rw [h, Bool.true_and, List.any_eq_true]
    constructor
    · rintro ⟨hb, ht⟩
      have hb' : 0 ≤ b ∧ b ≤ 9 := by simpa [inr] using hb
      rw [vic_bit h hp, Int.toNat_of_nonneg hb'.1] at ht
      exact ⟨_, ht, by simp⟩
    · rintro ⟨x, hx, e⟩
      obtain ⟨p, q, rfl, h1, h2⟩ := hp x hx
      simp at e
      obtain ⟨rfl, rfl⟩ := e
      exact ⟨inr_t (by omega) (by omega), by rw [vic_bit h hp, Int.toNat_natCast]; exact hx⟩
  · have h' : gB N X = false := by simpa using h
    rw [vic_not h']
    simp [dA, h']
theorem dA_mem {n : Nat} {X : List (List Int)} (h : gB n X = true) (hp : Prs n X) (a b : Int) : dA n X a b = true ↔ [a, b] ∈ X := by
  unfold dA
  rw [h, Bool.true_and, List.any_eq_true]
  constructor
  · rintro ⟨x, hx, e⟩
    obtain ⟨p, q, rfl, h1, h2⟩ := hp x hx
    simp at e
    obtain ⟨rfl, rfl⟩ := e
    exact hx
  · intro hx
    exact ⟨_, hx, by simp⟩
/-- Whom a claim attacks; who attacks it; whom a set attacks. -/
def vct (N : Int) (X : List (List Int)) (c : Int) : List Int := if gB N X then (X.filter fun x => x.getD 0 0 == c).map fun x => x.getD 1 0 else []
def atk (N : Int) (X : List (List Int)) (c : Int) : List Int := if gB N X then (X.filter fun x => x.getD 1 0 == c).map fun x => x.getD 0 0 else []
theorem lt_irr (a : Int) : ¬ a < a := Int.lt_irrefl a
theorem lt_tr (a b c : Int) (h : a < b) (k : b < c) : a < c := Int.lt_trans h k
theorem lsT_mem (x k : Nat) (z : Int) : z ∈ lsT x k ↔ ∃ j : Nat, j < k ∧ x.testBit j = true ∧ (j : Int) = z := by
  simp [lsT, and_assoc]
theorem range_asc (k : Nat) (p : Nat → Bool) : (((List.range k).filter p).map fun (j : Nat) => (j : Int)).Pairwise (· < ·) := by
  rw [List.pairwise_map]
  refine List.Pairwise.filter _ ?_
  refine List.pairwise_lt_range.imp ?_
  intro a b h
  exact_mod_cast h
theorem lsT_asc (x k : Nat) : (lsT x k).Pairwise (· < ·) := range_asc k _
theorem vct_mem {n : Nat} {X : List (List Int)} (h : gB n X = true) (hp : Prs n X) (c z : Int) : z ∈ vct n X c ↔ [c, z] ∈ X := by
  unfold vct
  rw [if_pos h, List.mem_map]
  constructor
  · rintro ⟨x, hx, rfl⟩
    rw [List.mem_filter] at hx
    obtain ⟨p, q, rfl, h1, h2⟩ := hp x hx.1
    have := hx.2
    simp at this
    subst this
    exact hx.1
  · intro hx
    exact ⟨_, List.mem_filter.2 ⟨hx, by simp⟩, by simp⟩
theorem atk_mem {n : Nat} {X : List (List Int)} (h : gB n X = true) (hp : Prs n X) (c z : Int) : z ∈ atk n X c ↔ [z, c] ∈ X := by
  unfold atk
  rw [if_pos h, List.mem_map]
  constructor
  · rintro ⟨x, hx, rfl⟩
    rw [List.mem_filter] at hx
    obtain ⟨p, q, rfl, h1, h2⟩ := hp x hx.1
    have := hx.2
    simp at this
    subst this
    exact hx.1
  · intro hx
    exact ⟨_, List.mem_filter.2 ⟨hx, by simp⟩, by simp⟩
theorem vct_asc (N : Int) (X : List (List Int)) (c : Int) : (vct N X c).Pairwise (· < ·) := by
  unfold vct
  split
  · rename_i h
    obtain ⟨n, rfl, hn, hp, ha⟩ := gB_ok h
    rw [List.pairwise_map, List.pairwise_filter]
    refine List.Pairwise.imp ?_ ha
    intro x y hl h1 h2
    rw [ltP_iff] at hl
    simp only [beq_iff_eq] at h1 h2
    omega
  · exact List.Pairwise.nil
theorem atk_asc (N : Int) (X : List (List Int)) (c : Int) : (atk N X c).Pairwise (· < ·) := by
  unfold atk
  split
  · rename_i h
    obtain ⟨n, rfl, hn, hp, ha⟩ := gB_ok h
    rw [List.pairwise_map, List.pairwise_filter]
    refine List.Pairwise.imp ?_ ha
    intro x y hl h1 h2
    rw [ltP_iff] at hl
    simp only [beq_iff_eq] at h1 h2
    omega
  · exact List.Pairwise.nil
theorem vct_code (N : Int) (X : List (List Int)) (c : Int) : lsT (vic (rn N X) (rf N X) c) 10 = vct N X c := by
  by_cases h : gB N X = true
  · refine sorted_ext lt_irr lt_tr (lsT_asc _ _) (vct_asc N X c) (fun z => ?_)
    obtain ⟨n, rfl, hn, hp, _⟩ := gB_ok h
    rw [lsT_mem, vct_mem h hp]
    constructor
    · rintro ⟨j, _, hj, rfl⟩
      exact (vic_bit h hp c j).1 hj
    · intro hx
      obtain ⟨p, q, e, h1, h2⟩ := hp _ hx
      injection e with e1 e2
      injection e2 with e2 _
      subst e2
      exact ⟨q, by omega, (vic_bit h hp c q).2 hx, rfl⟩
  · have h' : gB N X = false := by simpa using h
    rw [vic_not h']
    simp [vct, h', lsT]
/-- The code's list of attackers. -/
def lsA (f : Nat → Nat) (c : Int) (k : Nat) : List Int := ((List.range k).filter fun a => inr c 0 9 && (f a).testBit c.toNat).map fun (j : Nat) => (j : Int)
theorem atk_code (N : Int) (X : List (List Int)) (c : Int) : lsA (rf N X) c (rn N X).toNat = atk N X c := by
  by_cases h : gB N X = true
  · refine sorted_ext lt_irr lt_tr (range_asc _ _) (atk_asc N X c) (fun z => ?_)
    obtain ⟨n, rfl, hn, hp, _⟩ := gB_ok h
    have hr : (rn n X).toNat = n := by unfold rn; rw [if_pos h]; simp
    rw [atk_mem h hp, hr, lsA, List.mem_map]
    constructor
    · rintro ⟨j, hj, rfl⟩
      rw [List.mem_filter, Bool.and_eq_true] at hj
      obtain ⟨_, hc, ht⟩ := hj
      have hc' : 0 ≤ c ∧ c ≤ 9 := by simpa [inr] using hc
      obtain ⟨k, rfl⟩ := Int.eq_ofNat_of_zero_le hc'.1
      exact (rf_mem h hp j k).1 ht
    · intro hx
      obtain ⟨p, q, e, h1, h2⟩ := hp _ hx
      injection e with e1 e2
      injection e2 with e2 _
      subst e1 e2
      exact ⟨p, by rw [List.mem_filter, Bool.and_eq_true]; exact ⟨List.mem_range.2 h1, inr_t (by omega) (by omega), (rf_mem h hp p q).2 hx⟩, rfl⟩
  · have h' : gB N X = false := by simpa using h
    simp [lsA, rn, atk, h']
/-- Whom a set attacks. -/
def hitP (X : List (List Int)) (S : List Int) (k : Nat) : Bool := X.any fun x => x.getD 1 0 == (k : Int) && S.contains (x.getD 0 0)
def hitL (X : List (List Int)) (S : List Int) (k : Nat) : List Int := ((List.range k).filter (hitP X S)).map fun (j : Nat) => (j : Int)
def hit (N : Int) (X : List (List Int)) (S : List Int) : List Int := if gB N X then hitL X S N.toNat else []
def orV (n : Int) (f : Nat → Nat) (S : List Int) : Nat := S.foldl (fun h c => h ||| vic n f c) 0
theorem orV_snoc (n : Int) (f : Nat → Nat) (S : List Int) (c : Int) : orV n f (S ++ [c]) = orV n f S ||| vic n f c := by simp [orV, List.foldl_append]
theorem orV_bit (n : Int) (f : Nat → Nat) (S : List Int) (b : Nat) : (orV n f S).testBit b = S.any fun c => (vic n f c).testBit b := by
  have key : ∀ (S : List Int) (h : Nat), (S.foldl (fun h c => h ||| vic n f c) h).testBit b = (h.testBit b || S.any fun c => (vic n f c).testBit b) := by
    intro S
    induction S with
    | nil => simp
    | cons c S ih => intro h; rw [List.foldl_cons, ih, Nat.testBit_or, List.any_cons, Bool.or_assoc]
  rw [orV, key]; simp
theorem orV_lt (N : Int) (X : List (List Int)) (S : List Int) : orV (rn N X) (rf N X) S < 65536 := by
  have key : ∀ (S : List Int) (h : Nat), h < 2 ^ 16 → (S.foldl (fun h c => h ||| vic (rn N X) (rf N X) c) h) < 2 ^ 16 := by
    intro S
    induction S with
    | nil => intro h hh; exact hh
    | cons c S ih => intro h hh; rw [List.foldl_cons]; exact ih _ (Nat.or_lt_two_pow hh (vic_lt N X c))
  exact key S 0 (by decide)
theorem hit_code (N : Int) (X : List (List Int)) (S : List Int) : lsT (orV (rn N X) (rf N X) S) 10 = hit N X S := by
  by_cases h : gB N X = true
  · unfold hit
    rw [if_pos h]
    refine sorted_ext lt_irr lt_tr (lsT_asc _ _) (range_asc _ _) (fun z => ?_)
    obtain ⟨n, rfl, hn, hp, _⟩ := gB_ok h
    rw [lsT_mem, hitL, List.mem_map]
    constructor
    · rintro ⟨j, _, hj, rfl⟩
      rw [orV_bit, List.any_eq_true] at hj
      obtain ⟨c, hc, ht⟩ := hj
      have hm := (vic_bit h hp c j).1 ht
      obtain ⟨p, q, e, h1, h2⟩ := hp _ hm
      injection e with e1 e2
      injection e2 with e2 _
      refine ⟨j, List.mem_filter.2 ⟨List.mem_range.2 (by omega), ?_⟩, rfl⟩
      unfold hitP
      rw [List.any_eq_true]
      exact ⟨_, hm, by simp [hc]⟩
    · rintro ⟨j, hj, rfl⟩
      rw [List.mem_filter] at hj
      obtain ⟨hr, ht⟩ := hj
      unfold hitP at ht
      rw [List.any_eq_true] at ht
      obtain ⟨x, hx, ht⟩ := ht
      obtain ⟨p, q, rfl, h1, h2⟩ := hp x hx
      simp at ht
      obtain ⟨e, hs⟩ := ht
      have e' : q = j := by omega
      subst e'
      refine ⟨q, by omega, ?_, rfl⟩
      rw [orV_bit, List.any_eq_true]
      exact ⟨p, hs, (vic_bit h hp _ _).2 hx⟩
  · have h' : gB N X = false := by simpa using h
    have hz : orV (rn N X) (rf N X) S = 0 := by
      refine Nat.eq_of_testBit_eq fun b => ?_
      rw [orV_bit]
      simp [vic_not h']
    rw [hz]
    simp [hit, h', lsT]
end Go.Proofs.Ytdpaoaoipnoiiaa
