/- Where an attack is put among the pairs; the rows say the same: sums without code. -/
import Derived.Test.YtdpaoaoipnoiiaaRowMath
import Derived.Test.YtdpaoaoipnoiiaaGraphOf
namespace Go.Proofs.Ytdpaoaoipnoiiaa
def gtP (x : List Int) (a b : Int) : Bool := decide (a < x.getD 0 0) || (decide (x.getD 0 0 = a) && decide (b < x.getD 1 0))
def ins (a b : Int) : List (List Int) → List (List Int)
  | [] => [[a, b]]
  | x :: xs => if gtP x a b then [a, b] :: x :: xs else x :: ins a b xs
theorem ins_snoc_any {a b : Int} {x : List Int} : ∀ {Y : List (List Int)}, Y.any (gtP · a b) = true → ins a b (Y ++ [x]) = ins a b Y ++ [x]
  | [], h => by simp at h
  | y :: Y, h => by
    rw [List.cons_append]
    unfold ins
    by_cases hy : gtP y a b = true
    · rw [if_pos hy, if_pos hy]; rfl
    · rw [if_neg hy, if_neg hy, List.cons_append]
      congr 1
      refine ins_snoc_any ?_
      rw [List.any_cons] at h
      simpa [hy] using h
theorem ins_none {a b : Int} : ∀ {Y : List (List Int)}, Y.any (gtP · a b) = false → ins a b Y = Y ++ [[a, b]]
  | [], _ => rfl
  | y :: Y, h => by
    rw [List.any_cons, Bool.or_eq_false_iff] at h
    unfold ins
    rw [if_neg (by rw [h.1]; simp), ins_none h.2, List.cons_append]
theorem ins_first {a b : Int} {x : List Int} (hx : gtP x a b = true) : ∀ {Y : List (List Int)}, Y.any (gtP · a b) = false → ins a b (Y ++ [x]) = Y ++ [[a, b]] ++ [x]
  | [], _ => by simp [ins, hx]
  | y :: Y, h => by
    rw [List.any_cons, Bool.or_eq_false_iff] at h
    rw [List.cons_append]
    unfold ins
    rw [if_neg (by rw [h.1]; simp), ins_first hx h.2]
    simp
theorem ins_len (a b : Int) : ∀ X : List (List Int), (ins a b X).length = X.length + 1
  | [] => rfl
  | x :: X => by
    unfold ins
    split
    · rfl
    · simp [ins_len a b X]
theorem ins_mem {a b : Int} {z : List Int} : ∀ {X : List (List Int)}, z ∈ ins a b X ↔ z ∈ X ∨ z = [a, b]
  | [] => by simp [ins]
  | x :: X => by
    unfold ins
    split
    · simp only [List.mem_cons]
      constructor
      · rintro (h | h | h)
        · exact .inr h
        · exact .inl (.inl h)
        · exact .inl (.inr h)
      · rintro ((h | h) | h)
        · exact .inr (.inl h)
        · exact .inr (.inr h)
        · exact .inl h
    · rw [List.mem_cons, ins_mem, List.mem_cons]
      constructor
      · rintro (h | h | h)
        · exact .inl (.inl h)
        · exact .inl (.inr h)
        · exact .inr h
      · rintro ((h | h) | h)
        · exact .inl h
        · exact .inr (.inl h)
        · exact .inr (.inr h)
theorem gt_lt {x : List Int} {a b : Int} (h : gtP x a b = true) : ltP [a, b] x = true := by
  rw [ltP_iff]
  unfold gtP at h
  simp at h ⊢
  omega
theorem ins_asc {n : Nat} {a b : Int} : ∀ {X : List (List Int)}, Prs n X → Asc X → [a, b] ∉ X → Asc (ins a b X)
  | [], _, _, _ => by simp [ins, Asc]
  | x :: X, hp, ha, hn => by
    have ha' := ha
    unfold Asc at ha'
    rw [List.pairwise_cons] at ha'
    unfold ins
    split
    · rename_i hg
      have hl := gt_lt hg
      unfold Asc
      rw [List.pairwise_cons]
      refine ⟨fun y hy => ?_, ha⟩
      rcases List.mem_cons.1 hy with rfl | hy
      · exact hl
      · exact ltP_tr _ _ _ hl (ha'.1 y hy)
    · rename_i hg
      have ih := ins_asc (a := a) (b := b) (fun y hy => hp y (by simp [hy])) ha'.2 (fun h => hn (by simp [h]))
      unfold Asc at ih ⊢
      rw [List.pairwise_cons]
      refine ⟨fun y hy => ?_, ih⟩
      rcases ins_mem.1 hy with hy | rfl
      · exact ha'.1 y hy
      · obtain ⟨p, q, rfl, _, _⟩ := hp x (by simp)
        have hne : ¬ ((p : Int) = a ∧ (q : Int) = b) := by
          rintro ⟨rfl, rfl⟩
          exact hn (by simp)
        rw [ltP_iff]
        unfold gtP at hg
        simp at hg ⊢
        omega
theorem asc_nodup {X : List (List Int)} {a b : Int} (hm : [a, b] ∈ X) : ¬ Asc (ins a b X) := by
  intro h
  unfold Asc at h
  induction X with
  | nil => simp at hm
  | cons x X ih =>
    unfold ins at h
    split at h
    · rw [List.pairwise_cons] at h
      exact ltP_irr _ (h.1 _ hm)
    · rw [List.pairwise_cons] at h
      rcases List.mem_cons.1 hm with e | hm
      · exact ltP_irr _ (h.1 [a, b] (ins_mem.2 (.inr rfl)) |> fun k => by rw [← e] at k; exact k)
      · exact ih hm h.2
/-- Whether an attack can be added, and what the graph then is. -/
def canA (N : Int) (X : List (List Int)) (a b : Int) : Bool := gB N X && gB N (ins a b X)
def addL (N : Int) (X : List (List Int)) (a b : Int) : List (List Int) := if canA N X a b then ins a b X else X
theorem canA_out {N a b : Int} {X : List (List Int)} (h : ¬ (inr a 0 (rn N X - 1) = true ∧ inr b 0 (rn N X - 1) = true)) : canA N X a b = false := by
  cases hc : canA N X a b with
  | false => rfl
  | true =>
    exfalso
    unfold canA at hc
    rw [Bool.and_eq_true] at hc
    obtain ⟨h1, h2⟩ := hc
    obtain ⟨n, rfl, hn, hp, _⟩ := gB_ok h2
    obtain ⟨p, q, e, hp1, hq1⟩ := hp [a, b] (ins_mem.2 (.inr rfl))
    injection e with e1 e2
    injection e2 with e2 _
    refine h ?_
    unfold rn
    rw [if_pos h1, e1, e2]
    exact ⟨inr_t (by omega) (by omega), inr_t (by omega) (by omega)⟩
theorem in_rows {N a b : Int} {X : List (List Int)} (h1 : inr a 0 (rn N X - 1) = true) (h2 : inr b 0 (rn N X - 1) = true) : ∃ n p q : Nat, N = n ∧ n ≤ 10 ∧ a = p ∧ b = q ∧ p < n ∧ q < n ∧ gB N X = true ∧ rn N X = n := by
  cases hg : gB N X with
  | false =>
    exfalso
    unfold rn at h1
    rw [hg] at h1
    simp [inr] at h1
    omega
  | true =>
    obtain ⟨n, rfl, hn, _, _⟩ := gB_ok hg
    have hr : rn n X = n := by unfold rn; rw [if_pos hg]
    rw [hr] at h1 h2
    have h1' : 0 ≤ a ∧ a ≤ (n : Int) - 1 := by simpa [inr] using h1
    have h2' : 0 ≤ b ∧ b ≤ (n : Int) - 1 := by simpa [inr] using h2
    exact ⟨n, a.toNat, b.toNat, rfl, hn, by omega, by omega, by omega, by omega, rfl, hr⟩
theorem canA_there {n p q : Nat} {X : List (List Int)} (hg : gB n X = true) (hb : (rf n X p).testBit q = true) : canA n X p q = false := by
  obtain ⟨n', e, hn, hp, _⟩ := gB_ok hg
  obtain rfl : n = n' := by omega
  have hm := (rf_mem hg hp p q).1 hb
  cases hc : canA n X p q with
  | false => rfl
  | true =>
    exfalso
    unfold canA at hc
    rw [Bool.and_eq_true] at hc
    obtain ⟨_, _, _, _, ha⟩ := gB_ok hc.2
    exact asc_nodup hm ha
theorem mem_glK {f : Nat → Nat} {n : Nat} {z : List Int} : z ∈ glK f n ↔ ∃ p q : Nat, p < n ∧ q < 10 ∧ (f p).testBit q = true ∧ z = [(p : Int), (q : Int)] := by
  unfold glK
  rw [List.mem_flatMap]
  constructor
  · rintro ⟨p, hp, hz⟩
    unfold rowL at hz
    rw [List.mem_map] at hz
    obtain ⟨b, hb, rfl⟩ := hz
    obtain ⟨j, hj, ht, rfl⟩ := (lsT_mem _ _ _).1 hb
    exact ⟨p, j, List.mem_range.1 hp, hj, ht, rfl⟩
  · rintro ⟨p, q, hp, hq, ht, rfl⟩
    refine ⟨p, List.mem_range.2 hp, ?_⟩
    unfold rowL
    rw [List.mem_map]
    exact ⟨q, (lsT_mem _ _ _).2 ⟨q, hq, ht, rfl⟩, rfl⟩
theorem glK_asc (f : Nat → Nat) (n : Nat) : Asc (glK f n) := by
  unfold Asc
  induction n with
  | zero => simp [glK]
  | succ n ih =>
    rw [glK_succ, List.pairwise_append]
    refine ⟨ih, ?_, fun x hx y hy => ?_⟩
    · unfold rowL
      rw [List.pairwise_map]
      refine (lsT_asc (f n) 10).imp ?_
      intro a b h
      rw [ltP_iff]
      simp
      exact h
    · obtain ⟨p, q, hp, _, _, rfl⟩ := mem_glK.1 hx
      unfold rowL at hy
      rw [List.mem_map] at hy
      obtain ⟨b, _, rfl⟩ := hy
      rw [ltP_iff]
      simp
      omega
theorem glK_ins {n p q : Nat} {X : List (List Int)} (hg : gB n X = true) (hp : p < n) (hq : q < n) (hb : (rf n X p).testBit q = false) : glK (upd (rf n X) p q) n = ins p q X ∧ canA n X p q = true := by
  obtain ⟨n', e, hn, hP, hA⟩ := gB_ok hg
  obtain rfl : n = n' := by omega
  have hm : [(p : Int), (q : Int)] ∉ X := fun h => by rw [(rf_mem hg hP p q).2 h] at hb; simp at hb
  have hi := ins_asc hP hA hm
  refine ⟨sorted_ext ltP_irr ltP_tr (glK_asc _ _) hi (fun z => ?_), ?_⟩
  · rw [mem_glK, ins_mem]
    constructor
    · rintro ⟨a, b, ha, hb10, ht, rfl⟩
      rw [upd_bit, Bool.or_eq_true, Bool.and_eq_true] at ht
      rcases ht with ht | ⟨h1, h2⟩
      · exact .inl ((rf_mem hg hP a b).1 ht)
      · simp at h1 h2
        subst h1 h2
        exact .inr rfl
    · rintro (hz | rfl)
      · obtain ⟨a, b, rfl, ha, hb2⟩ := hP z hz
        exact ⟨a, b, ha, by omega, by rw [upd_bit, (rf_mem hg hP a b).2 hz]; rfl, rfl⟩
      · exact ⟨p, q, hp, by omega, by rw [upd_bit]; simp, rfl⟩
  · unfold canA
    rw [hg, Bool.true_and]
    refine gB_of hn (fun z hz => ?_) hi
    rcases ins_mem.1 hz with hz | rfl
    · exact hP z hz
    · exact ⟨p, q, rfl, hp, hq⟩
/-- Rows that grew by what was there are the same rows. -/
theorem upd_same {f : Nat → Nat} {p q : Nat} (h : (f p).testBit q = true) : upd f p q = f := by
  funext k
  unfold upd
  split
  · rename_i e
    subst e
    refine Nat.eq_of_testBit_eq fun j => ?_
    rw [Nat.testBit_or, Nat.testBit_two_pow]
    by_cases hj : q = j
    · subst hj; simp [h]
    · simp [hj]
  · rfl
theorem upd_other {f : Nat → Nat} {p q : Nat} (h : (f p).testBit q = false) : upd f p q p ≠ f p := by
  intro e
  have := upd_bit f p q p q
  rw [e, h] at this
  simp at this
end Go.Proofs.Ytdpaoaoipnoiiaa
