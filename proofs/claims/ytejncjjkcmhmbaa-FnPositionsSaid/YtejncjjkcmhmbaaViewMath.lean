/- Sums of chapter 7, without code: all complete sets in their order, those that no other one holds, what is in all. -/
import Derived.Test.YtejncjjkcmhmbaaGroundSum
namespace Go.Proofs.Ytejncjjkcmhmbaa
/-- Whether a set comes before another one. -/
def bfr : List Int → List Int → Bool
  | [], [] => false
  | [], _ :: _ => true
  | _ :: _, [] => false
  | a :: x, b :: y => if a = b then bfr x y else decide (a < b)
theorem bfr_irr : ∀ x : List Int, ¬ bfr x x = true
  | [] => by simp [bfr]
  | a :: x => by simpa [bfr] using bfr_irr x
theorem bfr_tr : ∀ x y z : List Int, bfr x y = true → bfr y z = true → bfr x z = true
  | [], [], _, h, _ => by simp [bfr] at h
  | [], _ :: _, [], _, h => by simp [bfr] at h
  | [], _ :: _, _ :: _, _, _ => by simp [bfr]
  | _ :: _, [], _, h, _ => by simp [bfr] at h
  | _ :: _, _ :: _, [], _, h => by simp [bfr] at h
  | a :: x, b :: y, c :: z, h, k => by
    have ih := bfr_tr x y z
    unfold bfr at h k ⊢
    by_cases h1 : a = b
    · subst h1
      rw [if_pos rfl] at h
      by_cases h2 : a = c
      · rw [if_pos h2] at k ⊢; exact ih h k
      · rw [if_neg h2] at k ⊢; exact k
    · rw [if_neg h1] at h
      have h := of_decide_eq_true h
      by_cases h2 : b = c
      · subst h2; rw [if_neg h1]; exact decide_eq_true h
      · rw [if_neg h2] at k
        have k := of_decide_eq_true k
        rw [if_neg (by omega)]
        exact decide_eq_true (by omega)
theorem bfr_tot : ∀ x y : List Int, x ≠ y → bfr x y = false → bfr y x = true
  | [], [], h, _ => absurd rfl h
  | [], _ :: _, _, h => by simp [bfr] at h
  | _ :: _, [], _, _ => by simp [bfr]
  | a :: x, b :: y, h, k => by
    have ih := bfr_tot x y
    unfold bfr at k ⊢
    by_cases h1 : a = b
    · subst h1
      rw [if_pos rfl] at k ⊢
      exact ih (fun e => h (by rw [e])) k
    · rw [if_neg h1] at k
      rw [if_neg (fun e => h1 e.symm)]
      have := of_decide_eq_false k
      exact decide_eq_true (by omega)
def Srt (R : List (List Int)) : Prop := R.Pairwise fun x y => bfr x y = true
/-- A set put into its place. -/
def insB (s : List Int) (R : List (List Int)) : List (List Int) := R.takeWhile (fun t => !bfr s t) ++ s :: R.dropWhile fun t => !bfr s t
theorem insB_mem {s t : List Int} {R : List (List Int)} : t ∈ insB s R ↔ t = s ∨ t ∈ R := by
  unfold insB
  rw [List.mem_append, List.mem_cons]
  constructor
  · rintro (h | h | h)
    · exact .inr ((List.takeWhile_sublist _).mem h)
    · exact .inl h
    · exact .inr ((List.dropWhile_sublist _).mem h)
  · rintro (h | h)
    · exact .inr (.inl h)
    · rw [← List.takeWhile_append_dropWhile (p := fun t => !bfr s t) (l := R), List.mem_append] at h
      rcases h with h | h
      · exact .inl h
      · exact .inr (.inr h)
theorem drop_all {s : List Int} : ∀ {R : List (List Int)}, Srt R → ∀ t ∈ R.dropWhile (fun t => !bfr s t), bfr s t = true
  | [], _, _, h => by cases h
  | x :: R, hs, t, h => by
    rw [List.dropWhile_cons] at h
    unfold Srt at hs
    rw [List.pairwise_cons] at hs
    cases hx : bfr s x with
    | false => rw [hx] at h; exact drop_all hs.2 t h
    | true =>
      rw [hx] at h
      simp at h
      rcases h with rfl | h
      · exact hx
      · exact bfr_tr _ _ _ hx (hs.1 t h)
theorem insB_srt {s : List Int} {R : List (List Int)} (h : Srt R) (hn : s ∉ R) : Srt (insB s R) := by
  unfold insB
  have hd := drop_all (s := s) h
  have hw : ∀ t ∈ R.takeWhile (fun t => !bfr s t), bfr t s = true := fun t ht => by
    have h1 : bfr s t = false := by
      have := List.all_eq_true.1 (List.all_takeWhile (p := fun t => !bfr s t) (l := R)) t ht
      simpa using this
    exact bfr_tot s t (fun e => hn (e ▸ (List.takeWhile_sublist _).mem ht)) h1
  unfold Srt
  rw [List.pairwise_append, List.pairwise_cons]
  refine ⟨h.sublist (List.takeWhile_sublist _), ⟨hd, h.sublist (List.dropWhile_sublist _)⟩, fun a ha b hb => ?_⟩
  rcases List.mem_cons.1 hb with rfl | hb
  · exact hw a ha
  · exact bfr_tr _ _ _ (hw a ha) (hd b hb)
/-- The place that a search from the end finds. -/
theorem insB_at {s : List Int} : ∀ {R : List (List Int)} {k : Nat}, Srt R → k ≤ R.length → (∀ t ∈ R.drop k, bfr s t = true) → (∀ t, R[k - 1]? = some t → 0 < k → bfr s t = false) → R.take k ++ s :: R.drop k = insB s R
  | [], k, _, hk, _, _ => by
    have : k = 0 := by simpa using hk
    subst this
    rfl
  | x :: R, 0, _, _, h1, _ => by
    have hx := h1 x (by simp)
    unfold insB
    rw [List.takeWhile_cons, List.dropWhile_cons, hx]
    rfl
  | x :: R, k + 1, hs, hk, h1, h2 => by
    have hk' : k ≤ R.length := by simpa using hk
    unfold Srt at hs
    have hs' := List.pairwise_cons.1 hs
    have hx : bfr s x = false := by
      cases k with
      | zero => exact h2 x rfl (by omega)
      | succ j =>
        have hj : j < R.length := by omega
        cases hb : bfr s x with
        | false => rfl
        | true =>
          have h3 := h2 R[j] (by simp [hj]) (by omega)
          rw [bfr_tr _ _ _ hb (hs'.1 _ (List.getElem_mem hj))] at h3
          cases h3
    have ih := insB_at (s := s) (R := R) (k := k) hs'.2 hk' (fun t ht => h1 t (by simpa using ht)) (fun t ht h0 => h2 t (by
      obtain ⟨j, rfl⟩ : ∃ j, k = j + 1 := ⟨k - 1, by omega⟩
      simpa using ht) (by omega))
    unfold insB at ih ⊢
    rw [List.takeWhile_cons, List.dropWhile_cons, hx]
    simp only [Bool.not_false, ite_true, List.take_succ_cons, List.drop_succ_cons, List.cons_append]
    rw [ih]
/-- The complete sets among the first m choices of n claims, in their order. -/
def allF (N : Int) (X : List (List Int)) (n : Nat) : Nat → List (List Int)
  | 0 => []
  | m + 1 => if compB N X (lsT m n) then insB (lsT m n) (allF N X n m) else allF N X n m
def allC (N : Int) (X : List (List Int)) : List (List Int) := if gB N X then allF N X N.toNat (2 ^ N.toNat) else []
theorem lsT_inj {a b n : Nat} (ha : a < 2 ^ n) (hb : b < 2 ^ n) (h : lsT a n = lsT b n) : a = b := by
  apply Nat.eq_of_testBit_eq
  intro i
  rcases Nat.lt_or_ge i n with hi | hi
  · have key : ∀ x y : Nat, lsT x n = lsT y n → x.testBit i = true → y.testBit i = true := fun x y e hx => by
      have : (i : Int) ∈ lsT y n := by rw [← e]; exact (lsT_mem x n i).2 ⟨i, hi, hx, rfl⟩
      obtain ⟨j, _, hj, e⟩ := (lsT_mem y n i).1 this
      have : j = i := by omega
      rw [← this]; exact hj
    cases h1 : a.testBit i with
    | true => exact (key a b h h1).symm
    | false =>
      cases h2 : b.testBit i with
      | false => rfl
      | true => rw [key b a h.symm h2] at h1; cases h1
  · have hp : 2 ^ n ≤ 2 ^ i := Nat.pow_le_pow_right (by decide) hi
    rw [Nat.testBit_lt_two_pow (by omega), Nat.testBit_lt_two_pow (by omega)]
theorem allF_mem {N : Int} {X : List (List Int)} {n : Nat} {s : List Int} : ∀ {m : Nat}, s ∈ allF N X n m ↔ ∃ j, j < m ∧ s = lsT j n ∧ compB N X s = true
  | 0 => by simp [allF]
  | m + 1 => by
    have ih := allF_mem (N := N) (X := X) (n := n) (s := s) (m := m)
    unfold allF
    constructor
    · intro h
      by_cases hc : compB N X (lsT m n) = true
      · rw [if_pos hc, insB_mem] at h
        rcases h with rfl | h
        · exact ⟨m, by omega, rfl, hc⟩
        · obtain ⟨j, h1, h2, h3⟩ := ih.1 h
          exact ⟨j, by omega, h2, h3⟩
      · rw [if_neg hc] at h
        obtain ⟨j, h1, h2, h3⟩ := ih.1 h
        exact ⟨j, by omega, h2, h3⟩
    · rintro ⟨j, h1, rfl, h3⟩
      rcases Nat.lt_or_ge j m with hj | hj
      · have := ih.2 ⟨j, hj, rfl, h3⟩
        split
        · exact insB_mem.2 (.inr this)
        · exact this
      · obtain rfl : j = m := by omega
        rw [if_pos h3]
        exact insB_mem.2 (.inl rfl)
theorem allF_srt {N : Int} {X : List (List Int)} {n : Nat} : ∀ {m : Nat}, m ≤ 2 ^ n → Srt (allF N X n m)
  | 0, _ => List.Pairwise.nil
  | m + 1, h => by
    have ih := allF_srt (N := N) (X := X) (n := n) (m := m) (by omega)
    unfold allF
    split
    · refine insB_srt ih fun hin => ?_
      obtain ⟨j, h1, h2, _⟩ := allF_mem.1 hin
      have := lsT_inj (by omega) (by omega) h2
      omega
    · exact ih
theorem allF_new {N : Int} {X : List (List Int)} {n m : Nat} (h : m < 2 ^ n) : lsT m n ∉ allF N X n m := fun hin => by
  obtain ⟨j, h1, h2, _⟩ := allF_mem.1 hin
  have := lsT_inj (by omega) (by omega) h2
  omega
theorem allF_len (N : Int) (X : List (List Int)) (n : Nat) : ∀ m, (allF N X n m).length ≤ m
  | 0 => Nat.le_refl _
  | m + 1 => by
    have ih := allF_len N X n m
    unfold allF
    split
    · have : (insB (lsT m n) (allF N X n m)).length = (allF N X n m).length + 1 := by
        unfold insB
        have := congrArg List.length (List.takeWhile_append_dropWhile (p := fun t => !bfr (lsT m n) t) (l := allF N X n m))
        rw [List.length_append] at this
        rw [List.length_append, List.length_cons]
        omega
      omega
    · omega
theorem allC_srt (N : Int) (X : List (List Int)) : Srt (allC N X) := by
  unfold allC
  split
  · exact allF_srt (Nat.le_refl _)
  · exact List.Pairwise.nil
theorem comp_set {N : Int} {X : List (List Int)} {s : List Int} (h : compB N X s = true) : setB N X s = true := by
  unfold compB at h
  rw [Bool.and_eq_true] at h
  exact free_set h.1
/-- A mask of a set of numbers. -/
def mask (s : List Int) (n : Nat) : Nat := (List.range n).foldl (fun (a j : Nat) => if s.contains (j : Int) then a ||| 1 <<< j else a) 0
theorem mask_bit (s : List Int) : ∀ (n i : Nat), (mask s n).testBit i = (decide (i < n) && s.contains (i : Int))
  | 0, i => by simp [mask]
  | n + 1, i => by
    have ih := mask_bit s n i
    have e : mask s (n + 1) = if s.contains (n : Int) then mask s n ||| 1 <<< n else mask s n := by simp [mask, List.range_succ, List.foldl_append]
    rw [e]
    by_cases hi : i = n
    · subst hi
      cases hc : s.contains (i : Int) with
      | true => simp [Nat.testBit_or, ih, Nat.testBit_shiftLeft]
      | false => simp [ih]
    · have h1 : decide (i < n + 1) = decide (i < n) := by
        by_cases h : i < n
        · rw [decide_eq_true h, decide_eq_true (by omega)]
        · rw [decide_eq_false h, decide_eq_false (by omega)]
      rw [h1, ← ih]
      split
      · rw [Nat.testBit_or]
        have : (1 <<< n).testBit i = false := by
          rw [Nat.one_shiftLeft, Nat.testBit_two_pow]
          simp; omega
        rw [this, Bool.or_false]
      · rfl
theorem mask_lt (s : List Int) (n : Nat) : mask s n < 2 ^ n := by
  apply Nat.lt_pow_two_of_testBit
  intro i hi
  rw [mask_bit, decide_eq_false (by omega)]
  rfl
theorem lsT_mask {n : Nat} {X : List (List Int)} {s : List Int} (hg : gB n X = true) (h : setB n X s = true) : lsT (mask s n) n = s := by
  obtain ⟨ha, hb⟩ := (setB_iff hg).1 h
  refine sorted_ext lt_irr lt_tr (lsT_asc _ _) ha fun z => ?_
  rw [lsT_mem]
  constructor
  · rintro ⟨j, h1, h2, rfl⟩
    rw [mask_bit, decide_eq_true h1, Bool.true_and] at h2
    exact List.contains_iff_mem.1 h2
  · intro hz
    obtain ⟨h0, h1⟩ := hb z hz
    obtain ⟨k, rfl⟩ := Int.eq_ofNat_of_zero_le h0
    refine ⟨k, by omega, ?_, rfl⟩
    rw [mask_bit, decide_eq_true (by omega), Bool.true_and]
    exact List.contains_iff_mem.2 hz
theorem allC_mem {N : Int} {X : List (List Int)} {s : List Int} : s ∈ allC N X ↔ compB N X s = true := by
  unfold allC
  constructor
  · intro h
    split at h
    · obtain ⟨_, _, _, h⟩ := allF_mem.1 h
      exact h
    · cases h
  · intro h
    have hs := comp_set h
    have hg := setB_g hs
    rw [if_pos hg]
    obtain ⟨n, rfl, _, _, _⟩ := gB_ok hg
    rw [Int.toNat_natCast]
    exact allF_mem.2 ⟨mask s n, mask_lt s n, (lsT_mask hg hs).symm, h⟩
/-- Whether no other complete set holds this one. -/
def prefP (N : Int) (X : List (List Int)) (s : List Int) : Bool := (allC N X).all fun t => decide (t = s) || !(s.all fun z => t.contains z)
def prefL (N : Int) (X : List (List Int)) : List (List Int) := (allC N X).filter (prefP N X)
def stabL (N : Int) (X : List (List Int)) : List (List Int) := (allC N X).filter (stabB N X)
def credB (N : Int) (X : List (List Int)) (c : Int) : Bool := (prefL N X).any fun s => s.contains c
/-- The numbers that are in all. -/
def inAll : List (List Int) → List Int
  | [] => []
  | s :: R => s.filter fun z => R.all fun t => t.contains z
def certB (N : Int) (X : List (List Int)) (c : Int) : Bool := (inAll (prefL N X)).contains c
theorem inAll_mem {L : List (List Int)} {z : Int} : z ∈ inAll L ↔ L ≠ [] ∧ ∀ t ∈ L, z ∈ t := by
  cases L with
  | nil => simp [inAll]
  | cons s R => simp [inAll, List.mem_filter]
theorem comp_asc {N : Int} {X : List (List Int)} {s : List Int} (h : compB N X s = true) : s.Pairwise (· < ·) := by
  have hs := comp_set h
  have hg := setB_g hs
  obtain ⟨n, rfl, _, _, _⟩ := gB_ok hg
  exact ((setB_iff hg).1 hs).1
theorem allC_g {N : Int} {X : List (List Int)} {s : List Int} (h : s ∈ allC N X) : gB N X = true := setB_g (comp_set (allC_mem.1 h))
theorem grd_allC {N : Int} {X : List (List Int)} (hg : gB N X = true) : grd N X ∈ allC N X := allC_mem.2 (grd_comp hg)
theorem grd_sub {N : Int} {X : List (List Int)} {s : List Int} (h : s ∈ allC N X) : ∀ z ∈ grd N X, z ∈ s := fun z hz =>
  List.contains_iff_mem.1 (List.all_eq_true.1 (grd_least (allC_g h) (allC_mem.1 h)) z hz)
theorem inAll_grd {N : Int} {X : List (List Int)} (hg : gB N X = true) : inAll (allC N X) = grd N X := by
  have hm := grd_allC hg
  refine sorted_ext lt_irr lt_tr ?_ (it_asc N X 10) fun z => ?_
  · have key : ∀ L : List (List Int), (∀ s ∈ L, s.Pairwise (· < ·)) → (inAll L).Pairwise (· < ·) := by
      intro L hL
      cases L with
      | nil => exact List.Pairwise.nil
      | cons s R => exact (hL s (by simp)).sublist List.filter_sublist
    exact key _ fun s hs => comp_asc (allC_mem.1 hs)
  · rw [inAll_mem]
    refine ⟨fun h => h.2 _ hm, fun h => ⟨List.ne_nil_of_mem hm, fun t ht => grd_sub ht z h⟩⟩
theorem longest {L : List (List Int)} (h : L ≠ []) : ∃ s ∈ L, ∀ t ∈ L, t.length ≤ s.length := by
  induction L with
  | nil => exact absurd rfl h
  | cons s L ih =>
    by_cases hL : L = []
    · subst hL
      exact ⟨s, by simp, fun t ht => by rw [List.mem_singleton.1 ht]; exact Nat.le_refl _⟩
    · obtain ⟨x, hx, hm⟩ := ih hL
      by_cases hl : x.length ≤ s.length
      · refine ⟨s, by simp, fun t ht => ?_⟩
        rcases List.mem_cons.1 ht with rfl | ht
        · exact Nat.le_refl _
        · exact Nat.le_trans (hm t ht) hl
      · refine ⟨x, List.mem_cons_of_mem _ hx, fun t ht => ?_⟩
        rcases List.mem_cons.1 ht with rfl | ht
        · omega
        · exact hm t ht
theorem prefL_mem {N : Int} {X : List (List Int)} {s : List Int} : s ∈ prefL N X ↔ s ∈ allC N X ∧ ∀ t ∈ allC N X, (∀ z ∈ s, z ∈ t) → t = s := by
  unfold prefL prefP
  rw [List.mem_filter, List.all_eq_true]
  refine and_congr_right fun _ => forall_congr' fun t => forall_congr' fun _ => ?_
  rw [Bool.or_eq_true, decide_eq_true_iff, Bool.not_eq_true', List.all_eq_false]
  constructor
  · rintro (h | ⟨z, h1, h2⟩) hs
    · exact h
    · exact absurd (List.contains_iff_mem.2 (hs z h1)) h2
  · intro h
    by_cases he : t = s
    · exact .inl he
    · refine .inr ?_
      refine Classical.byContradiction fun hc => he (h fun z hz => ?_)
      refine Classical.byContradiction fun hz' => hc ⟨z, hz, fun hcc => hz' (List.contains_iff_mem.1 hcc)⟩
theorem prefL_ne {N : Int} {X : List (List Int)} (hg : gB N X = true) : prefL N X ≠ [] := by
  have hm := grd_allC hg
  obtain ⟨s, hs, hmax⟩ := longest (L := allC N X) (fun e => by rw [e] at hm; cases hm)
  intro e
  have : s ∈ prefL N X := prefL_mem.2 ⟨hs, fun t ht hsub => by
    have h1 := sub_sorted (comp_asc (allC_mem.1 hs)) (comp_asc (allC_mem.1 ht)) hsub
    exact (h1.eq_of_length (Nat.le_antisymm h1.length_le (hmax t ht))).symm⟩
  rw [e] at this
  cases this
theorem allC_none {N : Int} {X : List (List Int)} (hg : gB N X = false) : allC N X = [] := by unfold allC; rw [hg]; rfl
theorem prefL_none {N : Int} {X : List (List Int)} (hg : gB N X = false) : prefL N X = [] := by unfold prefL; rw [allC_none hg]; rfl
theorem stab_iff {n : Nat} {X : List (List Int)} {S : List Int} : stabB n X S = true ↔ freeB n X S = true ∧ ∀ k : Nat, k < n → (k : Int) ∈ S ∨ (k : Int) ∈ hit n X S := by
  unfold stabB outP
  rw [Bool.and_eq_true, and_comm]
  refine and_congr_right fun hf => ?_
  rw [free_set hf, Bool.true_and, Bool.not_eq_true', List.any_eq_false, Int.toNat_natCast]
  constructor
  · intro h k hk
    have := h k (List.mem_range.2 hk)
    by_cases h1 : (k : Int) ∈ S
    · exact .inl h1
    · refine .inr (Classical.byContradiction fun h2 => this ?_)
      simp [h1, h2]
  · intro h k hk hc
    simp at hc
    rcases h k (List.mem_range.1 hk) with h1 | h1
    · exact hc.1 h1
    · exact hc.2 h1
/-- A stable set is held by no other one. -/
theorem stab_pref {N : Int} {X : List (List Int)} {s : List Int} (h : s ∈ stabL N X) : s ∈ prefL N X := by
  unfold stabL at h
  obtain ⟨hs, hst⟩ := List.mem_filter.1 h
  have hg := allC_g hs
  obtain ⟨n, rfl, hn, hp, _⟩ := gB_ok hg
  obtain ⟨hf, hk⟩ := stab_iff.1 hst
  refine prefL_mem.2 ⟨hs, fun t ht hsub => ?_⟩
  have hct := allC_mem.1 ht
  have hsT := comp_set hct
  have hfT : freeB n X t = true := by unfold compB at hct; rw [Bool.and_eq_true] at hct; exact hct.1
  refine sorted_ext lt_irr lt_tr (comp_asc hct) (comp_asc (allC_mem.1 hs)) fun z => ⟨fun hz => ?_, hsub z⟩
  obtain ⟨h0, h1⟩ := ((setB_iff hg).1 hsT).2 z hz
  obtain ⟨k, rfl⟩ := Int.eq_ofNat_of_zero_le h0
  rcases hk k (by omega) with h2 | h2
  · exact h2
  · obtain ⟨c, hc, hX⟩ := (hit_mem hg hp _).1 h2
    exact absurd ((hit_mem hg hp _).2 ⟨c, hsub c hc, hX⟩) ((free_iff.1 hfT).2 _ hz)
theorem grd_cert {N : Int} {X : List (List Int)} {c : Int} (h : (grd N X).contains c = true) (hg : gB N X = true) : certB N X c = true := by
  unfold certB
  rw [List.contains_iff_mem, inAll_mem]
  exact ⟨prefL_ne hg, fun t ht => grd_sub (prefL_mem.1 ht).1 c (List.contains_iff_mem.1 h)⟩
theorem cert_cred {N : Int} {X : List (List Int)} {c : Int} (h : certB N X c = true) : credB N X c = true := by
  unfold certB at h
  rw [List.contains_iff_mem, inAll_mem] at h
  obtain ⟨s, hs⟩ := List.exists_mem_of_ne_nil _ h.1
  unfold credB
  rw [List.any_eq_true]
  exact ⟨s, hs, List.contains_iff_mem.2 (h.2 s hs)⟩
theorem allC_len (N : Int) (X : List (List Int)) : (allC N X).length ≤ 1024 := by
  unfold allC
  split
  · next h =>
    obtain ⟨n, rfl, hn, _, _⟩ := gB_ok h
    rw [Int.toNat_natCast]
    have h1 := allF_len n X n (2 ^ n)
    have h2 : 2 ^ n ≤ 2 ^ 10 := Nat.pow_le_pow_right (by decide) hn
    omega
  · simp
theorem allC_row {N : Int} {X : List (List Int)} : ∀ s ∈ allC N X, s.length ≤ 10 := fun s hs => by
  have hc := allC_mem.1 hs
  have hd : defL N X s = s := by unfold compB at hc; rw [Bool.and_eq_true, decide_eq_true_iff] at hc; exact hc.2
  rw [← hd]
  exact defL_len10 N X s
end Go.Proofs.Ytejncjjkcmhmbaa
