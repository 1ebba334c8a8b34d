/- Sums of chapter 7, without code: what a search through the sets finds, claim by claim, and that it finds the complete sets in their order. -/
import Derived.Test.YtejncjjkcmhmbaaViewMath
namespace Go.Proofs.Ytejncjjkcmhmbaa
/-- Whether a set's bits are without a quarrel. -/
def frB (f : Nat → Nat) (h : Nat) : Bool := (h &&& hB f h 10) == 0
/-- Whether a set's bits are what they defend. -/
def fxB (n : Nat) (f : Nat → Nat) (h : Nat) : Bool := dB n f h == h
def slfB (n : Nat) (f : Nat → Nat) (h : Nat) : List Nat := if fxB n f h then [h] else []
/-- What is found with a further claim, out of the last d ones. -/
def lpB (n : Nat) (f : Nat → Nat) : Nat → Nat → List Nat
  | 0, _ => []
  | d + 1, h => (if frB f (h ||| 2 ^ (n - (d + 1))) then slfB n f (h ||| 2 ^ (n - (d + 1))) ++ lpB n f d (h ||| 2 ^ (n - (d + 1))) else []) ++ lpB n f d h
def vsB (n : Nat) (f : Nat → Nat) (d h : Nat) : List Nat := if frB f h then slfB n f h ++ lpB n f d h else []
theorem lpB_step (n : Nat) (f : Nat → Nat) (d h : Nat) : lpB n f (d + 1) h = vsB n f d (h ||| 2 ^ (n - (d + 1))) ++ lpB n f d h := rfl
theorem lpB_len (n : Nat) (f : Nat → Nat) : ∀ d h, (lpB n f d h).length + 1 ≤ 2 ^ d
  | 0, h => by simp [lpB]
  | d + 1, h => by
    have h1 := lpB_len n f d (h ||| 2 ^ (n - (d + 1)))
    have h2 := lpB_len n f d h
    have h3 : (slfB n f (h ||| 2 ^ (n - (d + 1)))).length ≤ 1 := by unfold slfB; split <;> simp
    rw [lpB_step, List.length_append, Nat.pow_succ]
    unfold vsB
    split
    · rw [List.length_append]; omega
    · simp; omega
theorem vsB_len (n : Nat) (f : Nat → Nat) (d h : Nat) : (vsB n f d h).length ≤ 2 ^ d := by
  have h2 := lpB_len n f d h
  have h3 : (slfB n f h).length ≤ 1 := by unfold slfB; split <;> simp
  unfold vsB
  split
  · rw [List.length_append]; omega
  · simp
/-- The bits below c are the same. -/
def Agr (c s h : Nat) : Prop := ∀ i, i < c → s.testBit i = h.testBit i
theorem bit_or_pow (h c i : Nat) : (h ||| 2 ^ c).testBit i = (h.testBit i || decide (c = i)) := by rw [Nat.testBit_or, Nat.testBit_two_pow]
theorem bit_big {h c i : Nat} (hh : h < 2 ^ c) (hi : c ≤ i) : h.testBit i = false := Nat.testBit_lt_two_pow (Nat.lt_of_lt_of_le hh (Nat.pow_le_pow_right (by decide) hi))
theorem or_lt {h c : Nat} (hh : h < 2 ^ c) : h ||| 2 ^ c < 2 ^ (c + 1) :=
  Nat.or_lt_two_pow (Nat.lt_of_lt_of_le hh (Nat.pow_le_pow_right (by decide) (by omega))) (Nat.pow_lt_pow_right (by decide) (by omega))
theorem frB_iff {f : Nat → Nat} {h : Nat} : frB f h = true ↔ ∀ i, h.testBit i = true → (hB f h 10).testBit i = false := by
  unfold frB
  rw [beq_iff_eq]
  constructor
  · intro e i hi
    have : (h &&& hB f h 10).testBit i = false := by rw [e]; simp
    rw [Nat.testBit_and, hi, Bool.true_and] at this
    exact this
  · intro k
    refine Nat.eq_of_testBit_eq fun i => ?_
    rw [Nat.testBit_and, Nat.zero_testBit]
    cases hi : h.testBit i with
    | false => rfl
    | true => rw [k i hi]; rfl
/-- Who is part of a set without quarrels has none. -/
theorem frB_less {f : Nat → Nat} {h s : Nat} (hs : frB f s = true) (hl : ∀ i, h.testBit i = true → s.testBit i = true) : frB f h = true := by
  rw [frB_iff] at hs ⊢
  intro i hi
  have h1 := hs i (hl i hi)
  cases h2 : (hB f h 10).testBit i with
  | false => rfl
  | true =>
    obtain ⟨a, ha, hb, hc⟩ := (hB_bit f h i 10).1 h2
    rw [(hB_bit f s i 10).2 ⟨a, ha, hl a hb, hc⟩] at h1
    exact h1
theorem lpB_mem {n : Nat} {f : Nat → Nat} {s : Nat} : ∀ (d h : Nat), d ≤ n → h < 2 ^ (n - d) → (s ∈ lpB n f d h ↔ s < 2 ^ n ∧ Agr (n - d) s h ∧ s ≠ h ∧ frB f s = true ∧ fxB n f s = true)
  | 0, h, _, hh => by
    constructor
    · intro hm; cases hm
    · rintro ⟨h1, h2, h3, _⟩
      exfalso
      refine h3 (Nat.eq_of_testBit_eq fun i => ?_)
      rcases Nat.lt_or_ge i n with hi | hi
      · exact h2 i hi
      · rw [bit_big h1 hi, bit_big hh hi]
  | d + 1, h, hd, hh => by
    obtain ⟨c, hc⟩ : ∃ c, c = n - (d + 1) := ⟨_, rfl⟩
    have hc1 : n - d = c + 1 := by omega
    rw [← hc] at hh ⊢
    have ih1 := lpB_mem (n := n) (f := f) (s := s) d (h ||| 2 ^ c) (by omega) (by rw [hc1]; exact or_lt hh)
    have ih2 := lpB_mem (n := n) (f := f) (s := s) d h (by omega) (by rw [hc1]; exact Nat.lt_of_lt_of_le hh (Nat.pow_le_pow_right (by decide) (by omega)))
    rw [hc1] at ih1 ih2
    have hhc : h.testBit c = false := bit_big hh (Nat.le_refl _)
    rw [lpB_step, ← hc, List.mem_append, ih2]
    have agr_of : Agr (c + 1) s (h ||| 2 ^ c) ↔ Agr c s h ∧ s.testBit c = true := by
      constructor
      · intro ha
        refine ⟨fun i hi => ?_, ?_⟩
        · rw [ha i (by omega), bit_or_pow, decide_eq_false (show ¬ c = i by omega), Bool.or_false]
        · rw [ha c (by omega), bit_or_pow]; simp
      · rintro ⟨ha, hb⟩ i hi
        rw [bit_or_pow]
        by_cases e : c = i
        · subst e; rw [hb]; simp
        · rw [decide_eq_false e, Bool.or_false]; exact ha i (by omega)
    have agr_of2 : Agr (c + 1) s h ↔ Agr c s h ∧ s.testBit c = false := by
      constructor
      · intro ha
        exact ⟨fun i hi => ha i (by omega), by rw [ha c (by omega), hhc]⟩
      · rintro ⟨ha, hb⟩ i hi
        by_cases e : i = c
        · subst e; rw [hb, hhc]
        · exact ha i (by omega)
    rw [agr_of2]
    have hself : s ∈ slfB n f (h ||| 2 ^ c) ↔ s = h ||| 2 ^ c ∧ fxB n f s = true := by
      unfold slfB
      constructor
      · intro hm
        split at hm
        · have := List.mem_singleton.1 hm; subst this; exact ⟨rfl, by assumption⟩
        · cases hm
      · rintro ⟨rfl, h2⟩
        rw [if_pos h2]; simp
    have hvs : s ∈ vsB n f d (h ||| 2 ^ c) ↔ s < 2 ^ n ∧ (Agr c s h ∧ s.testBit c = true) ∧ frB f s = true ∧ fxB n f s = true := by
      unfold vsB
      constructor
      · intro hm
        split at hm
        · rename_i hfr
          rcases List.mem_append.1 hm with hm | hm
          · obtain ⟨e, h2⟩ := hself.1 hm
            refine ⟨?_, ?_, e ▸ hfr, h2⟩
            · rw [e]; exact Nat.lt_of_lt_of_le (or_lt hh) (Nat.pow_le_pow_right (by decide) (by omega))
            · exact agr_of.1 (by rw [e]; exact fun i _ => rfl)
          · obtain ⟨h1, h2, _, h4, h5⟩ := ih1.1 hm
            exact ⟨h1, agr_of.1 h2, h4, h5⟩
        · cases hm
      · rintro ⟨h1, h2, h3, h4⟩
        have ha := agr_of.2 h2
        have hfr : frB f (h ||| 2 ^ c) = true := frB_less h3 fun i hi => by
          rcases Nat.lt_or_ge i (c + 1) with h' | h'
          · rw [ha i h']; exact hi
          · rw [bit_big (or_lt hh) h'] at hi; cases hi
        rw [if_pos hfr, List.mem_append]
        by_cases e : s = h ||| 2 ^ c
        · exact .inl (hself.2 ⟨e, h4⟩)
        · exact .inr (ih1.2 ⟨h1, ha, e, h3, h4⟩)
    rw [hvs]
    constructor
    · rintro (⟨h1, h2, h3, h4⟩ | ⟨h1, h2, h3, h4, h5⟩)
      · exact ⟨h1, h2.1, fun e => by rw [e, hhc] at h2; exact absurd h2.2 (by simp), h3, h4⟩
      · exact ⟨h1, h2.1, h3, h4, h5⟩
    · rintro ⟨h1, h2, h3, h4, h5⟩
      cases hb : s.testBit c with
      | true => exact .inl ⟨h1, ⟨h2, rfl⟩, h4, h5⟩
      | false => exact .inr ⟨h1, ⟨h2, rfl⟩, h3, h4, h5⟩
theorem bfr_app (p : List Int) (a b : List Int) : bfr (p ++ a) (p ++ b) = bfr a b := by
  induction p with
  | nil => rfl
  | cons x p ih =>
    show (if x = x then bfr (p ++ a) (p ++ b) else decide (x < x)) = bfr a b
    rw [if_pos rfl]; exact ih
/-- The claims of a row from c on. -/
def lsR (x c k : Nat) : List Int := ((List.range k).filter fun i => decide (c ≤ i) && x.testBit i).map fun (j : Nat) => (j : Int)
theorem lsT_split (x c : Nat) : ∀ k, c ≤ k → lsT x k = lsT x c ++ lsR x c k
  | 0, h => by
    obtain rfl : c = 0 := by omega
    rfl
  | k + 1, h => by
    by_cases e : c = k + 1
    · subst e
      have : lsR x (k + 1) (k + 1) = [] := by
        unfold lsR
        rw [List.map_eq_nil_iff, List.filter_eq_nil_iff]
        intro i hi
        rw [List.mem_range] at hi
        simp; omega
      rw [this, List.append_nil]
    · have ih := lsT_split x c k (by omega)
      cases hb : x.testBit k with
      | true =>
        have : lsR x c (k + 1) = lsR x c k ++ [(k : Int)] := by
          unfold lsR
          rw [List.range_succ, List.filter_append, List.map_append]
          congr 1
          simp [hb, show c ≤ k by omega]
        rw [lsT_yes hb, ih, this, List.append_assoc]
      | false =>
        have : lsR x c (k + 1) = lsR x c k := by
          unfold lsR
          rw [List.range_succ, List.filter_append, List.map_append]
          simp [hb]
        rw [lsT_no hb, ih, this]
theorem lsT_agr {x y : Nat} : ∀ {c : Nat}, Agr c x y → lsT x c = lsT y c
  | 0, _ => rfl
  | c + 1, h => by
    have ih := lsT_agr (x := x) (y := y) (c := c) fun i hi => h i (by omega)
    have hb := h c (by omega)
    cases h2 : y.testBit c with
    | true => rw [lsT_yes h2, lsT_yes (hb.trans h2), ih]
    | false => rw [lsT_no h2, lsT_no (hb.trans h2), ih]
theorem lsR_mem (x c k : Nat) (z : Int) : z ∈ lsR x c k ↔ ∃ j : Nat, j < k ∧ c ≤ j ∧ x.testBit j = true ∧ (j : Int) = z := by
  unfold lsR
  rw [List.mem_map]
  constructor
  · rintro ⟨j, hj, rfl⟩
    rw [List.mem_filter, List.mem_range] at hj
    simp at hj
    exact ⟨j, hj.1, hj.2.1, hj.2.2, rfl⟩
  · rintro ⟨j, h1, h2, h3, rfl⟩
    exact ⟨j, List.mem_filter.2 ⟨List.mem_range.2 h1, by simp [h2, h3]⟩, rfl⟩
theorem lsR_asc (x c k : Nat) : (lsR x c k).Pairwise (· < ·) := range_asc k _
/-- A set comes before those that begin with it. -/
theorem bfr_pre {x y c k : Nat} (hc : c ≤ k) (ha : Agr c y x) (hx : x < 2 ^ c) (hy : y < 2 ^ k) (hn : y ≠ x) : bfr (lsT x k) (lsT y k) = true := by
  rw [lsT_split x c k hc, lsT_split y c k hc, lsT_agr ha, bfr_app]
  have h1 : lsR x c k = [] := by
    rw [List.eq_nil_iff_forall_not_mem]
    intro z hz
    obtain ⟨j, _, h2, h3, _⟩ := (lsR_mem x c k z).1 hz
    rw [bit_big hx h2] at h3; cases h3
  have h2 : lsR y c k ≠ [] := by
    intro e
    refine hn (Nat.eq_of_testBit_eq fun i => ?_)
    rcases Nat.lt_or_ge i c with hi | hi
    · exact ha i hi
    · rw [bit_big hx hi]
      rcases Nat.lt_or_ge i k with hk | hk
      · cases hb : y.testBit i with
        | false => rfl
        | true =>
          have := (lsR_mem y c k i).2 ⟨i, hk, hi, hb, rfl⟩
          rw [e] at this; cases this
      · exact bit_big hy hk
  rw [h1]
  cases hl : lsR y c k with
  | nil => exact absurd hl h2
  | cons z l => rfl
/-- Whoever has the claim c comes before who goes on with a later one. -/
theorem bfr_bit {x y h c k : Nat} (hc : c < k) (hax : Agr c x h) (hay : Agr c y h) (hh : h < 2 ^ c) (hx : x.testBit c = true) (hy : y.testBit c = false) (hyk : y < 2 ^ k) (hn : y ≠ h) : bfr (lsT x k) (lsT y k) = true := by
  rw [lsT_split x c k (by omega), lsT_split y c k (by omega), lsT_agr hax, lsT_agr hay, bfr_app]
  have hxm : (c : Int) ∈ lsR x c k := (lsR_mem x c k c).2 ⟨c, hc, Nat.le_refl _, hx, rfl⟩
  have hyn : lsR y c k ≠ [] := by
    intro e
    refine hn (Nat.eq_of_testBit_eq fun i => ?_)
    rcases Nat.lt_or_ge i c with hi | hi
    · exact hay i hi
    · rw [bit_big hh hi]
      rcases Nat.lt_or_ge i k with hk | hk
      · cases hb : y.testBit i with
        | false => rfl
        | true =>
          have := (lsR_mem y c k i).2 ⟨i, hk, hi, hb, rfl⟩
          rw [e] at this; cases this
      · exact bit_big hyk hk
  have hax2 := lsR_asc x c k
  cases hlx : lsR x c k with
  | nil => rw [hlx] at hxm; cases hxm
  | cons p l =>
    cases hly : lsR y c k with
    | nil => exact absurd hly hyn
    | cons q m =>
      have hp : p ∈ lsR x c k := by rw [hlx]; simp
      have hq : q ∈ lsR y c k := by rw [hly]; simp
      obtain ⟨j, _, j2, _, rfl⟩ := (lsR_mem x c k p).1 hp
      obtain ⟨i, _, i2, i3, rfl⟩ := (lsR_mem y c k q).1 hq
      have hi : i ≠ c := fun e => by subst e; rw [hy] at i3; cases i3
      have hj : j = c := by
        rw [hlx] at hxm hax2
        rw [List.pairwise_cons] at hax2
        rcases List.mem_cons.1 hxm with e | e
        · omega
        · have := hax2.1 _ e; omega
      subst hj
      unfold bfr
      rw [if_neg (by omega)]
      exact decide_eq_true (by omega)
theorem lpB_srt {n : Nat} {f : Nat → Nat} : ∀ (d h : Nat), d ≤ n → h < 2 ^ (n - d) → (lpB n f d h).Pairwise fun x y => bfr (lsT x n) (lsT y n) = true
  | 0, h, _, _ => List.Pairwise.nil
  | d + 1, h, hd, hh => by
    obtain ⟨c, hc⟩ : ∃ c, c = n - (d + 1) := ⟨_, rfl⟩
    have hc1 : n - d = c + 1 := by omega
    rw [← hc] at hh
    have hh1 : h ||| 2 ^ c < 2 ^ (n - d) := by rw [hc1]; exact or_lt hh
    have hh2 : h < 2 ^ (n - d) := by rw [hc1]; exact Nat.lt_of_lt_of_le hh (Nat.pow_le_pow_right (by decide) (by omega))
    have ih1 := lpB_srt (n := n) (f := f) d (h ||| 2 ^ c) (by omega) hh1
    have ih2 := lpB_srt (n := n) (f := f) d h (by omega) hh2
    have hhc : h.testBit c = false := bit_big hh (Nat.le_refl _)
    have agr1 : ∀ {s}, Agr (n - d) s (h ||| 2 ^ c) → Agr c s h ∧ s.testBit c = true := fun {s} ha => by
      rw [hc1] at ha
      refine ⟨fun i hi => ?_, ?_⟩
      · rw [ha i (by omega), bit_or_pow, decide_eq_false (show ¬ c = i by omega), Bool.or_false]
      · rw [ha c (by omega), bit_or_pow]; simp
    have hself : ∀ s ∈ slfB n f (h ||| 2 ^ c), s = h ||| 2 ^ c := fun s hm => by
      unfold slfB at hm
      split at hm
      · exact List.mem_singleton.1 hm
      · cases hm
    rw [lpB_step, ← hc]
    refine List.pairwise_append.2 ⟨?_, ih2, fun x hx y hy => ?_⟩
    · unfold vsB
      split
      · refine List.pairwise_append.2 ⟨?_, ih1, fun x hx y hy => ?_⟩
        · unfold slfB
          split
          · exact List.pairwise_singleton _ _
          · exact List.Pairwise.nil
        · obtain ⟨h1, h2, h3, _⟩ := (lpB_mem d _ (by omega) hh1).1 hy
          rw [hself x hx]
          exact bfr_pre (Nat.sub_le _ _) h2 hh1 h1 h3
      · exact List.Pairwise.nil
    · obtain ⟨h1, h2, h3, _⟩ := (lpB_mem d _ (by omega) hh2).1 hy
      have hx1 : Agr c x h ∧ x.testBit c = true := by
        unfold vsB at hx
        split at hx
        · rcases List.mem_append.1 hx with hx | hx
          · rw [hself x hx]; exact agr1 fun i _ => rfl
          · obtain ⟨_, h2, _⟩ := (lpB_mem d _ (by omega) hh1).1 hx
            exact agr1 h2
        · cases hx
      rw [hc1] at h2
      exact bfr_bit (by omega) hx1.1 (fun i hi => h2 i (by omega)) hh hx1.2 (by rw [h2 c (by omega), hhc]) h1 h3
theorem lsT_up {x n : Nat} (hx : x < 2 ^ n) : ∀ j, lsT x (n + j) = lsT x n
  | 0 => rfl
  | j + 1 => by rw [← Nat.add_assoc, lsT_no (bit_big hx (by omega)), lsT_up hx j]
theorem lsT_ten {x n : Nat} (hn : n ≤ 10) (hx : x < 2 ^ n) : lsT x 10 = lsT x n := by
  obtain ⟨j, hj⟩ : ∃ j, 10 = n + j := ⟨10 - n, by omega⟩
  rw [hj]; exact lsT_up hx j
theorem set_lsT {n : Nat} {X : List (List Int)} (hg : gB n X = true) {x : Nat} : setB n X (lsT x n) = true :=
  (setB_iff hg).2 ⟨lsT_asc _ _, fun z hz => by
    obtain ⟨j, h1, _, rfl⟩ := (lsT_mem x n z).1 hz
    omega⟩
/-- Whether a set's bits are a complete set. -/
theorem comp_bits {n : Nat} {X : List (List Int)} (hg : gB n X = true) (hn : n ≤ 10) {x : Nat} (hx : x < 2 ^ n) : compB n X (lsT x n) = (frB (rf n X) x && fxB n (rf n X) x) := by
  have hs := set_lsT (x := x) hg
  have hx2 : x < 1024 := Nat.lt_of_lt_of_le hx (show 2 ^ n ≤ 2 ^ 10 from Nat.pow_le_pow_right (by decide) hn)
  have hb : bS (lsT x n) = x := by rw [← lsT_ten hn hx]; exact bS_lsT hx2
  have hq := quarrel_code hs
  have hd := dB_bS hs
  rw [rn_eq hg, hb] at hd
  rw [hb] at hq
  unfold compB freeB
  rw [← hq, hs, Bool.and_true]
  congr 1
  · unfold frB
    rw [Nat.and_comm x, bne, Bool.not_not]
  · unfold fxB
    rw [hd, Bool.eq_iff_iff, decide_eq_true_iff, beq_iff_eq]
    constructor
    · intro e; rw [e, hb]
    · intro e
      have hp := gB_ok hg
      obtain ⟨m, e2, _, hp, _⟩ := hp
      obtain rfl : n = m := by omega
      have h1 := lsT_bS hg hn (defL_set (S := lsT x n) hg hp)
      rw [e, lsT_ten hn hx] at h1
      exact h1.symm
/-- What the search finds from nothing on: the complete sets in their order. -/
theorem vsB_all {n : Nat} {X : List (List Int)} (hg : gB n X = true) (hn : n ≤ 10) : (vsB n (rf n X) n 0).map (fun x => lsT x 10) = allC n X := by
  have h0 : (0 : Nat) < 2 ^ (n - n) := Nat.two_pow_pos _
  have hz : frB (rf n X) 0 = true := by rw [frB_iff]; intro i hi; simp at hi
  have hlt : ∀ x ∈ vsB n (rf n X) n 0, x < 2 ^ n ∧ frB (rf n X) x = true ∧ fxB n (rf n X) x = true := fun x hx => by
    unfold vsB at hx
    rw [if_pos hz] at hx
    rcases List.mem_append.1 hx with hx | hx
    · unfold slfB at hx
      split at hx
      · have := List.mem_singleton.1 hx; subst this; exact ⟨Nat.two_pow_pos _, hz, by assumption⟩
      · cases hx
    · obtain ⟨h1, _, _, h2, h3⟩ := (lpB_mem n 0 (Nat.le_refl _) h0).1 hx
      exact ⟨h1, h2, h3⟩
  have hmap : (vsB n (rf n X) n 0).map (fun x => lsT x 10) = (vsB n (rf n X) n 0).map (fun x => lsT x n) := List.map_congr_left fun x hx => lsT_ten hn (hlt x hx).1
  rw [hmap]
  refine sorted_ext bfr_irr bfr_tr ?_ (allC_srt _ _) fun s => ?_
  · rw [List.pairwise_map]
    unfold vsB
    rw [if_pos hz]
    refine List.pairwise_append.2 ⟨?_, lpB_srt n 0 (Nat.le_refl _) h0, fun x hx y hy => ?_⟩
    · unfold slfB
      split
      · exact List.pairwise_singleton _ _
      · exact List.Pairwise.nil
    · obtain ⟨h1, h2, h3, _⟩ := (lpB_mem n 0 (Nat.le_refl _) h0).1 hy
      have : x = 0 := by
        unfold slfB at hx
        split at hx
        · exact List.mem_singleton.1 hx
        · cases hx
      subst this
      exact bfr_pre (Nat.sub_le _ _) h2 h0 h1 h3
  · rw [allC_mem, List.mem_map]
    constructor
    · rintro ⟨x, hx, rfl⟩
      obtain ⟨h1, h2, h3⟩ := hlt x hx
      rw [comp_bits hg hn h1, h2, h3]; rfl
    · intro hc
      have hs := comp_set hc
      refine ⟨mask s n, ?_, lsT_mask hg hs⟩
      have hm := mask_lt s n
      rw [← lsT_mask hg hs, comp_bits hg hn hm, Bool.and_eq_true] at hc
      unfold vsB
      rw [if_pos hz, List.mem_append]
      by_cases e : mask s n = 0
      · left
        unfold slfB
        rw [e] at hc
        rw [if_pos hc.2, e]; simp
      · exact .inr ((lpB_mem n 0 (Nat.le_refl _) h0).2 ⟨hm, fun i hi => absurd hi (by omega), e, hc.1, hc.2⟩)
theorem vsB_ok {n : Nat} {f : Nat → Nat} {x : Nat} (hx : x ∈ vsB n f n 0) : x < 2 ^ n ∧ frB f x = true ∧ fxB n f x = true := by
  have h0 : (0 : Nat) < 2 ^ (n - n) := Nat.two_pow_pos _
  unfold vsB at hx
  split at hx
  · rename_i hz
    rcases List.mem_append.1 hx with hx | hx
    · unfold slfB at hx
      split at hx
      · have := List.mem_singleton.1 hx; subst this; exact ⟨Nat.two_pow_pos _, hz, by assumption⟩
      · cases hx
    · obtain ⟨h1, _, _, h2, h3⟩ := (lpB_mem n 0 (Nat.le_refl _) h0).1 hx
      exact ⟨h1, h2, h3⟩
  · cases hx
end Go.Proofs.Ytejncjjkcmhmbaa
