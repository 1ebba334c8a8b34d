/- Sums of chapter 13, without code: what a binary search gives, and why Raise and Reply may use any such place. A point is (Id, Who, State). -/
import Derived.Test.YtignchefkihdaaaBurMath
namespace Go.Proofs.Ytignchefkihdaaa
/-- A place that a binary search may give, sorted or not. -/
def Plc (l : List T3) (k : Int) (p : Nat) : Prop := p ≤ l.length ∧ (∀ i, i + 1 = p → (l.getD i (0, 0, 0)).1 < k) ∧ (p < l.length → ¬ (l.getD p (0, 0, 0)).1 < k)
def insP (l : List T3) (k w : Int) (p : Nat) : List T3 := l.take p ++ [(k, w, 0)] ++ l.drop p
theorem pt_asc {l : List T3} (h : ptB l = true) : l.Pairwise (fun a b => a.1 < b.1) := by
  obtain ⟨_, h2, _⟩ := ptB_iff.1 h
  rw [List.pairwise_iff_getElem]
  have key : ∀ d i (hi : i < l.length) (hj : i + d + 1 < l.length), l[i].1 < l[i + d + 1].1 := by
    intro d
    induction d with
    | zero => intro i _ hj; exact h2 i hj
    | succ d ih =>
      intro i hi hj
      have a := ih i hi (by omega)
      have b := h2 (i + d + 1) (by omega)
      have e : i + (d + 1) + 1 = i + d + 1 + 1 := by omega
      simp only [e]
      omega
  intro i j hi hj hij
  have := key (j - i - 1) i hi (by omega)
  have e : i + (j - i - 1) + 1 = j := by omega
  simpa only [e] using this
theorem ins_sub (l : List T3) (k w : Int) (p : Nat) : l.Sublist (insP l k w p) := by
  unfold insP
  conv => lhs; rw [← List.take_append_drop p l]
  rw [List.append_assoc]
  exact (List.Sublist.refl _).append (List.sublist_append_right _ _)
theorem tw_len (q : T3 → Bool) : ∀ (l : List T3) (p : Nat), p ≤ l.length → (∀ i (h : i < l.length), i < p → q l[i] = true) → (∀ h : p < l.length, q l[p] = false) → (l.takeWhile q).length = p
  | [], p, hp, _, _ => by simp at hp; simp [hp]
  | a :: l, 0, _, _, h2 => by
    have := h2 (by simp)
    simp only [List.getElem_cons_zero] at this
    simp [this]
  | a :: l, p + 1, hp, h1, h2 => by
    have ha := h1 0 (by simp) (by omega)
    simp only [List.getElem_cons_zero] at ha
    have ih := tw_len q l p (by simpa using hp) (fun i h hi => by have := h1 (i + 1) (Nat.succ_lt_succ h) (by omega); rwa [List.getElem_cons_succ] at this) (fun h => by have := h2 (Nat.succ_lt_succ h); rwa [List.getElem_cons_succ] at this)
    simp [ha, ih]
theorem plc_lt {l : List T3} {k : Int} {p : Nat} (h : Plc l k p) (ha : l.Pairwise (fun a b => a.1 < b.1)) : (∀ i (hi : i < l.length), i < p → l[i].1 < k) ∧ (∀ i (hi : i < l.length), p ≤ i → ¬ l[i].1 < k) := by
  obtain ⟨h0, h1, h2⟩ := h
  rw [List.pairwise_iff_getElem] at ha
  refine ⟨fun i hi hip => ?_, fun i hi hip => ?_⟩
  · have := h1 (p - 1) (by omega)
    rw [getT (show p - 1 < l.length by omega)] at this
    by_cases e : i = p - 1
    · subst e; exact this
    · have := ha i (p - 1) hi (by omega) (by omega)
      omega
  · have hp : p < l.length := by omega
    have := h2 hp
    rw [getT hp] at this
    by_cases e : i = p
    · subst e; exact this
    · have := ha p i hp hi (by omega)
      omega
theorem plc_rai {l : List T3} {k : Int} {p : Nat} (h : Plc l k p) (ha : l.Pairwise (fun a b => a.1 < b.1)) : raiK l k = p := by
  obtain ⟨h1, h2⟩ := plc_lt h ha
  unfold raiK
  exact tw_len _ l p h.1 (fun i hi hip => decide_eq_true (h1 i hi hip)) (fun hp => decide_eq_false (h2 p hp (Nat.le_refl _)))
theorem ins_rai {l : List T3} {k w : Int} {p : Nat} (h : Plc l k p) : insP l k w p = raiX l k w ∨ (ptB (insP l k w p) = false ∧ ptB (raiX l k w) = false) := by
  by_cases ha : l.Pairwise (fun a b => a.1 < b.1)
  · left
    unfold insP raiX
    rw [plc_rai h ha]
  · right
    refine ⟨?_, ?_⟩
    · rw [← Bool.not_eq_true]
      exact fun e => ha ((pt_asc e).sublist (ins_sub l k w p))
    · rw [← Bool.not_eq_true]
      exact fun e => ha ((pt_asc e).sublist (ins_sub l k w (raiK l k)))
theorem ins_B {l : List T3} {k w : Int} {p : Nat} (h : Plc l k p) : ptB (insP l k w p) = ptB (raiX l k w) ∧ (ptB (insP l k w p) = true → insP l k w p = raiX l k w) := by
  rcases ins_rai (w := w) h with e | ⟨e1, e2⟩
  · rw [e]; exact ⟨rfl, fun _ => rfl⟩
  · rw [e1, e2]; exact ⟨rfl, fun h => by cases h⟩
theorem ins_len (l : List T3) (k w : Int) (p : Nat) (hp : p ≤ l.length) : (insP l k w p).length = l.length + 1 := by
  unfold insP
  simp
  omega
/-- Who speaks about a point, 0 for nobody. -/
def spkA (x : T3) : Int := if x.2.2 = 0 then 3 - x.2.1 else if x.2.2 = 2 then x.2.1 else 0
def canB (a b : Int) : Bool := if a = 0 then decide (b = 1) || decide (b = 2) else if a = 2 then decide (b = 3) || decide (b = 4) else false
def repC (l : List T3) (k w s : Int) (p : Nat) : Bool := decide (p < l.length) && (decide ((l.getD p (0, 0, 0)).1 = k) && (decide (spkA (l.getD p (0, 0, 0)) = w) && canB (l.getD p (0, 0, 0)).2.2 s))
theorem rep_of {x : T3} {k w s : Int} (hx : ptOk x = true) (hk : x.1 = k) : (inr w 1 2 && repP k w s x) = (decide (spkA x = w) && canB x.2.2 s) := by
  unfold ptOk at hx
  simp only [Bool.and_eq_true] at hx
  have hw := inrI hx.1.2
  unfold repP spkA canB
  rw [hk, beq_self_eq_true, Bool.true_and]
  rw [Bool.eq_iff_iff]
  unfold inr
  by_cases h0 : x.2.2 = 0
  · simp only [h0, if_true]
    simp
    omega
  · by_cases h2 : x.2.2 = 2
    · simp only [h2]
      simp
      omega
    · simp only [h0, h2, if_false]
      simp [h0, h2]
theorem rep_plc {l : List T3} {k w s : Int} {p : Nat} (hb : ptB l = true) (h : Plc l k p) : repI l k w s = if repC l k w s p then some p else none := by
  have ha := pt_asc hb
  obtain ⟨h1, h2⟩ := plc_lt h ha
  have hok := (ptB_iff.1 hb).1
  rw [List.pairwise_iff_getElem] at ha
  have only : ∀ i (hi : i < l.length), l[i].1 = k → i = p := fun i hi e => by
    rcases Nat.lt_trichotomy i p with hip | hip | hip
    · have := h1 i hi hip; omega
    · exact hip
    · have a := ha p i (by omega) hi hip
      have b := h2 p (by omega) (Nat.le_refl _)
      omega
  unfold repI
  rw [hb, Bool.true_and]
  by_cases hc : repC l k w s p = true
  · rw [if_pos hc]
    unfold repC at hc
    simp only [Bool.and_eq_true, decide_eq_true_eq] at hc
    obtain ⟨hp, hk, hsp, hcb⟩ := hc
    rw [getT hp] at hsp hcb hk
    have e := rep_of (w := w) (s := s) (hok p hp) hk
    rw [hcb, decide_eq_true hsp, Bool.and_self, Bool.and_eq_true] at e
    rw [if_pos e.1, List.find?_range_eq_some]
    refine ⟨by rw [getT hp]; exact e.2, List.mem_range.2 hp, fun j hj => ?_⟩
    have hjl : j < l.length := by omega
    rw [getT hjl]
    have hne : l[j].1 ≠ k := fun e => by have := only j hjl e; omega
    unfold repP
    simp [hne]
  · rw [if_neg hc]
    split
    · rename_i hw
      rw [List.find?_eq_none]
      intro i hi hr
      have hil := List.mem_range.1 hi
      rw [getT hil] at hr
      have hk : l[i].1 = k := by
        unfold repP at hr
        rw [Bool.and_eq_true] at hr
        simpa using hr.1
      have hip := only i hil hk
      subst hip
      have e := rep_of (w := w) (s := s) (hok i hil) hk
      rw [hw, hr, Bool.and_self] at e
      apply hc
      unfold repC
      rw [getT hil, decide_eq_true hil, decide_eq_true hk, ← e]
      rfl
    · rfl
end Go.Proofs.Ytignchefkihdaaa
