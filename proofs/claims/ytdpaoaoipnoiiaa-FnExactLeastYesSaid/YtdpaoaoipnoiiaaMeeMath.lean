/- The mathematics of meetings (chapter 29). No conditions. -/
import Derived.Test.YtdpaoaoipnoiiaaInts
namespace Go.Proofs.Ytdpaoaoipnoiiaa
open Go.RowKit
def canP (m p : Int) : Bool := inr m 1 1000 && inr p 0 m
def canV (p y n : Int) : Bool := inr y 0 p && inr n 0 (p - y)
def quoB (m p : Int) : Bool := canP m p && decide (m < 2 * p)
def votB (y n : Int) : Bool := inr y 0 1000 && inr n 0 1000
def pasV (y n : Int) (t : Bool) : Bool := if t then decide (0 < y) && decide (2 * n ≤ y) else decide (n < y)
def pasB (y n : Int) (t : Bool) : Bool := votB y n && pasV y n t
theorem in_iff {n lo hi : Int} : inr n lo hi = true ↔ lo ≤ n ∧ n ≤ hi := by simp [inr]
theorem canP_iff {m p : Int} : canP m p = true ↔ (1 ≤ m ∧ m ≤ 1000) ∧ (0 ≤ p ∧ p ≤ m) := by simp [canP, in_iff]
theorem canV_iff {p y n : Int} : canV p y n = true ↔ (0 ≤ y ∧ y ≤ p) ∧ (0 ≤ n ∧ n ≤ p - y) := by simp [canV, in_iff]
theorem votB_iff {y n : Int} : votB y n = true ↔ (0 ≤ y ∧ y ≤ 1000) ∧ (0 ≤ n ∧ n ≤ 1000) := by simp [votB, in_iff]
theorem quoB_iff {m p : Int} : quoB m p = true ↔ ((1 ≤ m ∧ m ≤ 1000) ∧ (0 ≤ p ∧ p ≤ m)) ∧ m < 2 * p := by simp [quoB, canP_iff]
theorem pasV_t {y n : Int} : pasV y n true = true ↔ 0 < y ∧ 2 * n ≤ y := by simp [pasV]
theorem pasV_f {y n : Int} : pasV y n false = true ↔ n < y := by simp [pasV]
theorem pasB_iff {y n : Int} {t : Bool} : pasB y n t = true ↔ ((0 ≤ y ∧ y ≤ 1000) ∧ (0 ≤ n ∧ n ≤ 1000)) ∧ pasV y n t = true := by simp [pasB, votB_iff]
/-- One vote more never turns a yes into a no. -/
theorem pasB_more {y n : Int} {t : Bool} (h : pasB y n t = true) (hy : y + 1 ≤ 1000) : pasB (y + 1) n t = true := by
  rw [pasB_iff] at h ⊢
  obtain ⟨⟨⟨a, b⟩, c, d⟩, e⟩ := h
  refine ⟨⟨⟨by omega, by omega⟩, c, d⟩, ?_⟩
  cases t
  · rw [pasV_f] at e ⊢; omega
  · rw [pasV_t] at e ⊢; omega
/-- The least number that passes, if there is one. -/
def leaI (v : Int) (t : Bool) : Int := if inr v 0 1000 then (match (List.range (v.toNat + 1)).find? (fun (y : Nat) => pasB (y : Int) (v - y) t) with | some y => (y : Int) | none => -1) else -1
def NoP (v : Int) (t : Bool) (k : Nat) : Prop := ∀ j : Nat, j < k → pasB (j : Int) (v - j) t = false
theorem NoP.zero {v : Int} {t : Bool} : NoP v t 0 := fun j hj => by omega
theorem NoP.succ {v : Int} {t : Bool} {k : Nat} (h : NoP v t k) (h2 : pasB (k : Int) (v - k) t = false) : NoP v t (k + 1) := fun j hj => by
  by_cases e : j = k
  · rw [e]; exact h2
  · exact h j (by omega)
theorem lea_some {v : Int} {t : Bool} {k : Nat} (hv : inr v 0 1000 = true) (h : NoP v t k) (hk : (k : Int) ≤ v) (h2 : pasB (k : Int) (v - k) t = true) : leaI v t = k := by
  unfold leaI
  rw [if_pos hv]
  have : (List.range (v.toNat + 1)).find? (fun (y : Nat) => pasB (y : Int) (v - y) t) = some k := by
    rw [List.find?_range_eq_some]
    exact ⟨h2, List.mem_range.2 (by omega), fun j hj => by simpa using h j hj⟩
  rw [this]
theorem lea_none {v : Int} {t : Bool} {k : Nat} (hv : inr v 0 1000 = true) (h : NoP v t k) (hk : v < (k : Int)) : leaI v t = -1 := by
  unfold leaI
  rw [if_pos hv]
  have : (List.range (v.toNat + 1)).find? (fun (y : Nat) => pasB (y : Int) (v - y) t) = none := by
    rw [List.find?_eq_none]
    intro j hj
    have := h j (by have := List.mem_range.1 hj; have := in_iff.1 hv; omega)
    simpa using this
  rw [this]
theorem lea_no {v : Int} {t : Bool} (hv : inr v 0 1000 = false) : leaI v t = -1 := by unfold leaI; rw [hv]; rfl
/-- What the least number says: it passes, and the one below does not. -/
theorem lea_says {v : Int} {t : Bool} : leaI v t = -1 ∨ ∃ k : Nat, leaI v t = k ∧ (k : Int) ≤ 1000 ∧ (0 ≤ v ∧ v ≤ 1000) ∧ pasB (k : Int) (v - k) t = true ∧ (0 < k → pasB ((k : Int) - 1) (v - k + 1) t = false) := by
  cases hv : inr v 0 1000 with
  | false => exact .inl (lea_no hv)
  | true =>
    unfold leaI
    rw [if_pos hv]
    cases hf : (List.range (v.toNat + 1)).find? (fun (y : Nat) => pasB (y : Int) (v - y) t) with
    | none => exact .inl rfl
    | some k =>
      right
      rw [List.find?_range_eq_some] at hf
      obtain ⟨h1, h2, h3⟩ := hf
      have hv2 := in_iff.1 hv
      have := List.mem_range.1 h2
      refine ⟨k, rfl, by omega, hv2, h1, fun hk => ?_⟩
      have h4 := h3 (k - 1) (by omega)
      have e1 : ((k - 1 : Nat) : Int) = (k : Int) - 1 := by omega
      have e2 : v - ((k : Int) - 1) = v - k + 1 := by omega
      rw [e1, e2] at h4
      simpa using h4
def castB (y n : Int) (c : Bool) : Bool := decide (n < y) || (decide (y = n) && c)
theorem cast_other (y n : Int) (c : Bool) : castB y n c ≠ castB n y (!c) := by
  unfold castB
  rcases Int.lt_trichotomy y n with h | h | h
  · simp [show ¬ n < y by omega, h, show ¬ y = n by omega]
  · subst h; cases c <;> simp
  · simp [h, show ¬ y < n by omega, show ¬ y = n by omega, show ¬ n = y by omega]
theorem cast_pass {y n : Int} (h : pasB y n false = true) : castB y n false = true := by
  have := pasV_f.1 (pasB_iff.1 h).2
  simp [castB, this]
def possB (m p y n : Int) : Bool := canP m p && canV p y n
def resS (m p y n : Int) (t : Bool) : ByteArray := if possB m p y n then (if quoB m p then (if pasB y n t then "yes".toUTF8 else "no".toUTF8) else "none".toUTF8) else "invalid".toUTF8
theorem possB_iff {m p y n : Int} : possB m p y n = true ↔ ((1 ≤ m ∧ m ≤ 1000) ∧ (0 ≤ p ∧ p ≤ m)) ∧ (0 ≤ y ∧ y ≤ p) ∧ (0 ≤ n ∧ n ≤ p - y) := by simp [possB, canP_iff, canV_iff]
end Go.Proofs.Ytdpaoaoipnoiiaa
