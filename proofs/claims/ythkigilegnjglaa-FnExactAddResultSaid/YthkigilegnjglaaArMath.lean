/- Mathematics of AddResult (arsR). No conditions. -/
import Derived.Test.YthkigilegnjglaaAdD
import Derived.Test.YthkigilegnjglaaSfM
namespace Go.Proofs.Ythkigilegnjglaa
open Go.ChangeShapes Go.WideShapes Go.ChangeAt Go.RowKit
def arOk (X : List Tm) (a b wi p q : Int) : Bool := twB X a b && (decide (a ≠ b) && (inr wi 1 2 && (inr p 0 1000 && inr q 0 1000)))
def arsZ (X : List Tm) (a b wi p q : Int) : List Tm :=
  (X.set (fndI X a).toNat (adT { X.getD (fndI X a).toNat tmD with firsts := (X.getD (fndI X a).toNat tmD).firsts + 1 } b (wi == 1) p)).set (fndI X b).toNat (adT (X.getD (fndI X b).toNat tmD) a (wi == 2) q)
def arsR (X : List Tm) (a b wi p q : Int) : List Tm := if arOk X a b wi p q && atB (arsZ X a b wi p q) then arsZ X a b wi p q else X
def arsB (X : List Tm) (a b wi p q : Int) : Bool := arOk X a b wi p q && atB (arsZ X a b wi p q)
section
variable {X : List Tm} {a b wi p q : Int} {i j : Nat} {x y : Tm}
theorem ar_no (h : arOk X a b wi p q = false) : arsR X a b wi p q = X ∧ arsB X a b wi p q = false := by unfold arsR arsB; rw [h]; exact ⟨rfl, rfl⟩
theorem arOk_1 (h : twB X a b = false) : arOk X a b wi p q = false := by unfold arOk; rw [h, Bool.false_and]
theorem arOk_2 (h : a = b) : arOk X a b wi p q = false := by unfold arOk; rw [decide_eq_false (by simpa using h), Bool.false_and, Bool.and_false]
theorem arOk_3 (h : inr wi 1 2 = false) : arOk X a b wi p q = false := by unfold arOk; rw [h]; simp
theorem arOk_4 (h : inr p 0 1000 = false) : arOk X a b wi p q = false := by unfold arOk; rw [h]; simp
theorem arOk_5 (h : inr q 0 1000 = false) : arOk X a b wi p q = false := by unfold arOk; rw [h]; simp
theorem arOk_y (h1 : twB X a b = true) (h2 : a ≠ b) (h3 : inr wi 1 2 = true) (h4 : inr p 0 1000 = true) (h5 : inr q 0 1000 = true) : arOk X a b wi p q = true := by unfold arOk; rw [h1, decide_eq_true h2, h3, h4, h5]; rfl
theorem ar_z (hi : fndO X a = some (i : Int)) (hj : fndO X b = some (j : Int)) (hx : X[i]? = some x) (hy : X[j]? = some y) : arsZ X a b wi p q = (X.set i (adT { x with firsts := x.firsts + 1 } b (wi == 1) p)).set j (adT y a (wi == 2) q) := by
  unfold arsZ
  rw [fndI_some hi, fndI_some hj]
  simp [List.getD, hx, hy]
theorem ar_yes {Z : List Tm} (h : arOk X a b wi p q = true) (hz : arsZ X a b wi p q = Z) (ht : atB Z = true) : arsR X a b wi p q = Z ∧ arsB X a b wi p q = true := by
  unfold arsR arsB; rw [h, hz, ht]; exact ⟨rfl, rfl⟩
theorem ar_bad {Z : List Tm} (h : arOk X a b wi p q = true) (hz : arsZ X a b wi p q = Z) (ht : atB Z = false) : arsR X a b wi p q = X ∧ arsB X a b wi p q = false := by
  unfold arsR arsB; rw [h, hz, ht]; exact ⟨rfl, rfl⟩
theorem te_b {X : List Tm} (h : atB X = true) {k : Nat} {x : Tm} (hx : X[k]? = some x) : x.met.length ≤ 20 ∧ (0 ≤ x.wins ∧ x.wins ≤ 20) ∧ (0 ≤ x.pts ∧ x.pts ≤ 100000) ∧ (0 ≤ x.firsts ∧ x.firsts ≤ 20) := by
  obtain ⟨hk, rfl⟩ := List.getElem?_eq_some_iff.1 hx
  have h1 := (te_at h hk).1
  unfold tmP inr at h1
  simp only [Bool.and_eq_true, decide_eq_true_eq] at h1
  omega
theorem inr_b {n lo hi : Int} (h : inr n lo hi = true) : lo ≤ n ∧ n ≤ hi := by unfold inr at h; simpa using h
theorem adT_ok {x : Tm} {m q : Int} {won : Bool} (h : x.ok) (hm : I6 m) (hp : I6 (x.pts + q)) (hw : I6 (x.wins + 1)) : (adT x m won q).ok := by
  obtain ⟨h1, h2, h3, h4, h5, h6⟩ := h
  refine ⟨h1, h2, ?_, hp, h5, fun z hz => ?_⟩
  · unfold adT; cases won
    · exact h3
    · exact hw
  · rcases List.mem_append.1 hz with hz | hz
    · exact h6 z hz
    · have : z = m := by simpa using hz
      rw [this]; exact hm
end
end Go.Proofs.Ythkigilegnjglaa
