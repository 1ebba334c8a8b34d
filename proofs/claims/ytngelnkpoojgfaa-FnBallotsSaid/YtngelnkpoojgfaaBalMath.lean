/- Sums of chapter 16, without code: ballots, votes and decisions; and all that its law says. A ballot is (Judge, First, Second). -/
import Derived.Test.YtngelnkpoojgfaaBurMath
namespace Go.Proofs.Ytngelnkpoojgfaa
def blB (b : T3) : Bool := inr b.1 1 99 && inr b.2.1 0 100 && inr b.2.2 0 100 && b.2.1 != b.2.2
def blAt (l : List T3) (i : Nat) : Bool := blB (l.getD i (0, 0, 0)) && (i == 0 || decide ((l.getD (i - 1) (0, 0, 0)).1 < (l.getD i (0, 0, 0)).1))
def bsB (l : List T3) : Bool := (List.range l.length).all (blAt l) && decide (l.length ≤ 9)
def ofB (b : T3) : Int := if b.2.2 < b.2.1 then 1 else 2
def votN (l : List T3) (t : Int) : Int := if bsB l then ((l.filter fun b => ofB b == t).length : Int) else 0
def sumP (t : Int) (b : T3) : Int := if t = 1 then b.2.1 else if t = 2 then b.2.2 else 0
def sumF (l : List T3) (t : Int) : Int := l.foldl (fun n b => n + sumP t b) 0
def sumN (l : List T3) (t : Int) : Int := if bsB l then sumF l t else 0
def sgnD (l : List T3) (d : Int) : Int := if 0 < d then 1 else if d < 0 then 2 else ofB (l.getD 0 (0, 0, 0))
def decD (l : List T3) : Int := if votN l 1 - votN l 2 = 0 then sumN l 1 - sumN l 2 else votN l 1 - votN l 2
def decN (l : List T3) : Int := if l.length = 0 then 0 else if bsB l then sgnD l (decD l) else 0
def splB (l : List T3) : Bool := decide (0 < votN l 1) && decide (0 < votN l 2)
def turB (b : T3) : T3 := (b.1, b.2.2, b.2.1)
def turL (l : List T3) : List T3 := l.map turB
theorem bl_parts {b : T3} (h : blB b = true) : (0 ≤ b.2.1 ∧ b.2.1 ≤ 100) ∧ (0 ≤ b.2.2 ∧ b.2.2 ≤ 100) ∧ b.2.1 ≠ b.2.2 := by
  unfold blB at h
  simp only [Bool.and_eq_true, bne_iff_ne] at h
  exact ⟨inrI h.1.1.2, inrI h.1.2, h.2⟩
theorem bs_mem {l : List T3} (h : bsB l = true) : ∀ b ∈ l, blB b = true := by
  intro b hb
  obtain ⟨i, hi, rfl⟩ := List.getElem_of_mem hb
  unfold bsB at h
  rw [Bool.and_eq_true, List.all_eq_true] at h
  have := h.1 i (List.mem_range.2 hi)
  unfold blAt at this
  rw [getT hi, Bool.and_eq_true] at this
  exact this.1
theorem bs_len {l : List T3} (h : bsB l = true) : l.length ≤ 9 := by
  unfold bsB at h
  simp only [Bool.and_eq_true, decide_eq_true_eq] at h
  exact h.2
theorem tur_bl (b : T3) : blB (turB b) = blB b := by
  unfold blB turB
  simp only
  rw [show (b.2.2 != b.2.1) = (b.2.1 != b.2.2) by rw [Bool.eq_iff_iff, bne_iff_ne, bne_iff_ne]; exact ⟨fun h e => h e.symm, fun h e => h e.symm⟩]
  cases inr b.2.1 0 100 <;> cases inr b.2.2 0 100 <;> simp
theorem tur_get (l : List T3) (i : Nat) : (turL l).getD i (0, 0, 0) = turB (l.getD i (0, 0, 0)) := by
  unfold turL
  rw [List.getD_eq_getElem?_getD, List.getD_eq_getElem?_getD, List.getElem?_map]
  cases l[i]? <;> rfl
theorem tur_bs (l : List T3) : bsB (turL l) = bsB l := by
  unfold bsB
  have hl : (turL l).length = l.length := by simp [turL]
  rw [hl]
  congr 2
  funext i
  unfold blAt
  rw [tur_get, tur_get, tur_bl]
  rfl
theorem tur_of {b : T3} (h : blB b = true) : ofB (turB b) = 3 - ofB b := by
  obtain ⟨_, _, h3⟩ := bl_parts h
  unfold ofB turB
  simp only
  split <;> split <;> omega
theorem of_two (b : T3) : ofB b = 1 ∨ ofB b = 2 := by
  unfold ofB
  split <;> simp
theorem tur_vot (l : List T3) (t : Int) : votN (turL l) t = votN l (3 - t) := by
  unfold votN
  rw [tur_bs]
  split
  · rename_i h
    unfold turL
    rw [List.filter_map, List.length_map]
    congr 2
    refine List.filter_congr fun b hb => ?_
    have := tur_of (bs_mem h b hb)
    have h2 := of_two b
    simp only [Function.comp]
    rw [this, Bool.eq_iff_iff, beq_iff_eq, beq_iff_eq]
    omega
  · rfl
theorem sum_tur (t : Int) (ht : t = 1 ∨ t = 2) : ∀ (l : List T3) (n : Int), (turL l).foldl (fun n b => n + sumP t b) n = l.foldl (fun n b => n + sumP (3 - t) b) n
  | [], n => rfl
  | b :: l, n => by
    unfold turL
    rw [List.map_cons, List.foldl_cons, List.foldl_cons]
    have e : sumP t (turB b) = sumP (3 - t) b := by
      unfold sumP turB
      rcases ht with rfl | rfl <;> simp
    rw [e]
    exact sum_tur t ht l _
theorem tur_sum (l : List T3) (t : Int) (ht : t = 1 ∨ t = 2) : sumN (turL l) t = sumN l (3 - t) := by
  unfold sumN sumF
  rw [tur_bs, sum_tur t ht]
theorem tur_dec (l : List T3) : decD (turL l) = -(decD l) := by
  unfold decD
  rw [tur_vot l 1, tur_vot l 2, tur_sum l 1 (.inl rfl), tur_sum l 2 (.inr rfl), show (3 : Int) - 1 = 2 by rfl, show (3 : Int) - 2 = 1 by rfl]
  split <;> split <;> omega
theorem dec_tur {l : List T3} (h : decN l ≠ 0) : decN (turL l) = 3 - decN l := by
  have hl : (turL l).length = l.length := by simp [turL]
  unfold decN at h ⊢
  rw [hl, tur_bs, tur_dec]
  by_cases h0 : l.length = 0
  · rw [if_pos h0] at h; exact absurd rfl h
  · rw [if_neg h0] at h
    rw [if_neg h0, if_neg h0]
    by_cases hb : bsB l = true
    · rw [if_pos hb, if_pos hb]
      unfold sgnD
      have hg := tur_of (bs_mem hb (l.getD 0 (0, 0, 0)) (by rw [getT (show 0 < l.length by omega)]; exact List.getElem_mem _))
      rw [tur_get, hg]
      split <;> split <;> (try split) <;> (try split) <;> omega
    · rw [if_neg hb] at h; exact absurd rfl h
theorem dec_some (l : List T3) : decide (decN l ≠ 0) = (decide (0 < l.length) && bsB l) := by
  unfold decN
  by_cases h0 : l.length = 0
  · rw [if_pos h0, h0]; rfl
  · rw [if_neg h0, decide_eq_true (show 0 < l.length by omega), Bool.true_and]
    cases hb : bsB l with
    | false => simp
    | true =>
      simp only [if_true]
      refine decide_eq_true ?_
      unfold sgnD
      have := of_two (l.getD 0 (0, 0, 0))
      split
      · omega
      · split <;> omega
theorem vot_sum {l : List T3} (h : bsB l = true) : votN l 1 + votN l 2 = (l.length : Int) := by
  unfold votN
  rw [if_pos h, if_pos h]
  have : ∀ l : List T3, (l.filter fun b => ofB b == 1).length + (l.filter fun b => ofB b == 2).length = l.length := by
    intro l
    induction l with
    | nil => rfl
    | cons b l ih =>
      simp only [List.filter_cons]
      rcases of_two b with e | e <;> rw [e] <;> simp <;> omega
  have := this l
  omega
theorem dec_vot {l : List T3} (h : decN l ≠ 0) : bsB l = true ∧ (votN l 2 < votN l 1 → decN l = 1) ∧ (votN l 1 < votN l 2 → decN l = 2) := by
  have hs := dec_some l
  rw [decide_eq_true h] at hs
  have hs := hs.symm
  rw [Bool.and_eq_true, decide_eq_true_iff] at hs
  have e : decN l = sgnD l (decD l) := by
    unfold decN
    rw [if_neg (by omega), if_pos hs.2]
  refine ⟨hs.2, fun hv => ?_, fun hv => ?_⟩
  · rw [e]
    unfold sgnD decD
    rw [if_neg (show ¬ votN l 1 - votN l 2 = 0 by omega), if_pos (by omega)]
  · rw [e]
    unfold sgnD decD
    rw [if_neg (show ¬ votN l 1 - votN l 2 = 0 by omega), if_neg (by omega), if_pos (by omega)]
theorem sum_from {l : List T3} (t : Int) (h : ∀ b ∈ l, blB b = true) : ∀ (n : Int), n ≤ l.foldl (fun n b => n + sumP t b) n ∧ l.foldl (fun n b => n + sumP t b) n ≤ n + 100 * (l.length : Int) := by
  induction l with
  | nil => intro n; simp
  | cons b l ih =>
    intro n
    have hb := bl_parts (h b List.mem_cons_self)
    have := ih (fun c hc => h c (List.mem_cons_of_mem _ hc)) (n + sumP t b)
    have hp : 0 ≤ sumP t b ∧ sumP t b ≤ 100 := by
      unfold sumP
      split
      · omega
      · split <;> omega
    rw [List.foldl_cons, List.length_cons]
    omega
theorem sum_pos (l : List T3) (t : Int) : 0 ≤ sumN l t := by
  unfold sumN
  split
  · rename_i h
    exact (sum_from t (bs_mem h) 0).1
  · omega
end Go.Proofs.Ytngelnkpoojgfaa
