/- Sums of chapter 13, without code: points, who must speak about them, who won; and all that its law says. A point is (Id, Who, State). -/
import Derived.Test.YtdhnhhicjjcmdaaInts
namespace Go.Proofs.Ytdhnhhicjjcmdaa
abbrev T3 := Int × Int × Int
def ptOk (p : T3) : Bool := inr p.1 1 99 && inr p.2.1 1 2 && inr p.2.2 0 4
/-- The place i of a list of points is well. -/
def ptAt (l : List T3) (i : Nat) : Bool := ptOk (l.getD i (0, 0, 0)) && (i == 0 || decide ((l.getD (i - 1) (0, 0, 0)).1 < (l.getD i (0, 0, 0)).1))
def ptB (l : List T3) : Bool := (List.range l.length).all (ptAt l) && decide (l.length ≤ 30)
def raiK (l : List T3) (k : Int) : Nat := (l.takeWhile fun p => decide (p.1 < k)).length
def raiX (l : List T3) (k w : Int) : List T3 := l.take (raiK l k) ++ [(k, w, 0)] ++ l.drop (raiK l k)
def raiL (l : List T3) (k w : Int) : List T3 := if ptB (raiX l k w) then raiX l k w else l
/-- Whether who may turn p's state into s. -/
def repP (k w s : Int) (p : T3) : Bool := p.1 == k && ((p.2.2 == 0 && p.2.1 != w && inr s 1 2) || (p.2.2 == 2 && p.2.1 == w && inr s 3 4))
def repI (l : List T3) (k w s : Int) : Option Nat := if ptB l && inr w 1 2 then (List.range l.length).find? fun i => repP k w s (l.getD i (0, 0, 0)) else none
def repL (l : List T3) (k w s : Int) : List T3 := match repI l k w s with | some i => l.set i ((l.getD i (0, 0, 0)).1, (l.getD i (0, 0, 0)).2.1, s) | none => l
def mstP (side : Int) (p : T3) : Bool := (p.2.2 == 0 && p.2.1 != side) || (p.2.2 == 2 && p.2.1 == side)
def mstL (l : List T3) (side : Int) : List Int := if ptB l && inr side 1 2 then (l.filter (mstP side)).map (·.1) else []
def wonP (side : Int) (p : T3) : Int := if p.2.1 = side then (if p.2.2 = 1 ∨ p.2.2 = 3 then 1 else if p.2.2 = 4 then -1 else 0) else 0
def wonN (l : List T3) (side : Int) : Int := l.foldl (fun n p => n + wonP side p) 0
def setP (l : List T3) : Bool := ptB l && decide ((mstL l 1).length = 0) && decide ((mstL l 2).length = 0)
theorem inrI {a b c : Int} (h : inr a b c = true) : b ≤ a ∧ a ≤ c := by
  unfold inr at h
  simpa using h
theorem inrJ {a b c : Int} (h1 : b ≤ a) (h2 : a ≤ c) : inr a b c = true := by
  unfold inr
  simp [h1, h2]
theorem getT {l : List T3} {i : Nat} (h : i < l.length) : l.getD i (0, 0, 0) = l[i] := by simp [List.getD, h]
theorem ptB_iff {l : List T3} : ptB l = true ↔ (∀ i (h : i < l.length), ptOk l[i] = true) ∧ (∀ i (h : i + 1 < l.length), (l[i]).1 < (l[i + 1]).1) ∧ l.length ≤ 30 := by
  unfold ptB
  rw [Bool.and_eq_true, decide_eq_true_iff, List.all_eq_true]
  constructor
  · rintro ⟨h, hl⟩
    refine ⟨fun i hi => ?_, fun i hi => ?_, hl⟩
    · have := h i (List.mem_range.2 hi)
      unfold ptAt at this
      rw [getT hi, Bool.and_eq_true] at this
      exact this.1
    · have := h (i + 1) (List.mem_range.2 hi)
      unfold ptAt at this
      rw [getT hi, show i + 1 - 1 = i by omega, getT (show i < l.length by omega), Bool.and_eq_true] at this
      simpa using this.2
  · rintro ⟨h1, h2, hl⟩
    refine ⟨fun i hi => ?_, hl⟩
    have hi := List.mem_range.1 hi
    unfold ptAt
    rw [getT hi, h1 i hi, Bool.true_and]
    cases i with
    | zero => rfl
    | succ i =>
      rw [show i + 1 - 1 = i by omega, getT (show i < l.length by omega), decide_eq_true (h2 i hi)]
      simp
theorem rep_some {l : List T3} {k w s : Int} {i : Nat} (h : repI l k w s = some i) : ptB l = true ∧ inr w 1 2 = true ∧ ∃ hi : i < l.length, repP k w s l[i] = true := by
  unfold repI at h
  split at h
  · rename_i hh
    rw [Bool.and_eq_true] at hh
    have hm := List.mem_range.1 (List.mem_of_find?_eq_some h)
    have hp := List.find?_some h
    exact ⟨hh.1, hh.2, hm, by rwa [getT hm] at hp⟩
  · cases h
theorem rep_len (l : List T3) (k w s : Int) : (repL l k w s).length = l.length := by
  unfold repL
  split <;> simp
theorem rep_pt {l : List T3} {k w s : Int} {i : Nat} (h : repI l k w s = some i) : ptB (repL l k w s) = true := by
  obtain ⟨hp, hw, hi, hr⟩ := rep_some h
  obtain ⟨h1, h2, h3⟩ := ptB_iff.1 hp
  have hs : inr s 0 4 = true := by
    unfold repP at hr
    simp only [Bool.and_eq_true, Bool.or_eq_true] at hr
    rcases hr.2 with hr | hr
    · have := inrI hr.2; exact inrJ (by omega) (by omega)
    · have := inrI hr.2; exact inrJ (by omega) (by omega)
  have e : repL l k w s = l.set i ((l[i]).1, (l[i]).2.1, s) := by unfold repL; rw [h]; simp only [getT hi]
  rw [e, ptB_iff]
  refine ⟨fun j hj => ?_, fun j hj => ?_, by simpa using h3⟩
  · rw [List.getElem_set]
    split
    · rename_i hij
      subst hij
      have := h1 i hi
      unfold ptOk at this ⊢
      simp only [Bool.and_eq_true] at this ⊢
      exact ⟨this.1, hs⟩
    · exact h1 j (by simpa using hj)
  · have hj' : j + 1 < l.length := by simpa using hj
    have := h2 j hj'
    rw [List.getElem_set, List.getElem_set]
    split <;> split <;> simp_all
theorem rep_must {l : List T3} {k w s : Int} {i : Nat} (h : repI l k w s = some i) : (mstL l w).contains k = true := by
  obtain ⟨hp, hw, hi, hr⟩ := rep_some h
  unfold mstL
  rw [hp, hw, Bool.and_self, if_pos rfl, List.contains_iff_mem, List.mem_map]
  unfold repP at hr
  simp only [Bool.and_eq_true, Bool.or_eq_true] at hr
  refine ⟨l[i], List.mem_filter.2 ⟨List.getElem_mem hi, ?_⟩, by simpa using hr.1⟩
  unfold mstP
  rcases hr.2 with hr | hr
  · rw [hr.1.1, hr.1.2]; rfl
  · rw [hr.1.1, hr.1.2]; simp
theorem rai_len (l : List T3) (k w : Int) : (raiX l k w).length = l.length + 1 := by
  unfold raiX
  have : raiK l k ≤ l.length := (List.takeWhile_sublist _).length_le
  simp
  omega
theorem rai_mem (l : List T3) (k w : Int) : (k, w, 0) ∈ raiX l k w := by
  unfold raiX
  simp
theorem rai_must {l : List T3} {k w : Int} (h : ptB (raiX l k w) = true) : (mstL (raiX l k w) (3 - w)).contains k = true := by
  obtain ⟨h1, _, _⟩ := ptB_iff.1 h
  obtain ⟨i, hi, e⟩ := List.getElem_of_mem (rai_mem l k w)
  have hok := h1 i hi
  rw [e] at hok
  unfold ptOk at hok
  simp only [Bool.and_eq_true] at hok
  have hw := inrI hok.1.2
  unfold mstL
  rw [h, inrJ (a := 3 - w) (by omega) (by omega), Bool.and_self, if_pos rfl, List.contains_iff_mem, List.mem_map]
  refine ⟨(k, w, 0), List.mem_filter.2 ⟨rai_mem l k w, ?_⟩, rfl⟩
  unfold mstP
  simp
  omega
theorem set_none {l : List T3} (h : setP l = true) : ∀ p ∈ l, p.2.2 ≠ 0 ∧ p.2.2 ≠ 2 := by
  unfold setP at h
  simp only [Bool.and_eq_true, decide_eq_true_eq] at h
  obtain ⟨⟨hp, h1⟩, h2⟩ := h
  have hall := (ptB_iff.1 hp).1
  have hno : ∀ side, inr side 1 2 = true → (mstL l side).length = 0 → ∀ p ∈ l, mstP side p = false := fun side hs hl p hm => by
    unfold mstL at hl
    rw [hp, hs, Bool.and_self, if_pos rfl, List.length_map] at hl
    have := List.filter_eq_nil_iff.1 (List.eq_nil_of_length_eq_zero hl) p hm
    simpa using this
  intro p hm
  obtain ⟨i, hi, rfl⟩ := List.getElem_of_mem hm
  have hok := hall i hi
  unfold ptOk at hok
  simp only [Bool.and_eq_true] at hok
  have hw := inrI hok.1.2
  have a1 := hno 1 (by decide) h1 _ hm
  have a2 := hno 2 (by decide) h2 _ hm
  unfold mstP at a1 a2
  simp only [Bool.or_eq_false_iff, Bool.and_eq_false_iff, beq_eq_false_iff_ne, bne_eq_false_iff_eq] at a1 a2
  constructor
  · intro e
    rcases a1.1 with h | h
    · exact h e
    · rcases a2.1 with h' | h'
      · exact h' e
      · omega
  · intro e
    rcases a1.2 with h | h
    · exact h e
    · rcases a2.2 with h' | h'
      · exact h' e
      · omega
theorem wonP_le (side : Int) (p : T3) : -1 ≤ wonP side p ∧ wonP side p ≤ 1 := by
  unfold wonP
  split
  · split
    · omega
    · split <;> omega
  · omega
theorem won_from (side : Int) : ∀ (l : List T3) (n : Int), n - (l.length : Int) ≤ l.foldl (fun n p => n + wonP side p) n ∧ l.foldl (fun n p => n + wonP side p) n ≤ n + (l.length : Int)
  | [], n => by simp
  | p :: l, n => by
    have h := won_from side l (n + wonP side p)
    have := wonP_le side p
    rw [List.foldl_cons, List.length_cons]
    omega
theorem won_le (l : List T3) (side : Int) : -(l.length : Int) ≤ wonN l side ∧ wonN l side ≤ (l.length : Int) := by
  have := won_from side l 0
  unfold wonN
  omega
end Go.Proofs.Ytdhnhhicjjcmdaa
