/- Mathematics of teams' places: the first team with an Id (fndO, fndI), and the map that the code makes from the end (plF, plK). No conditions. -/
import Derived.Test.YthkigilegnjglaaBckT
namespace Go.Proofs.Ythkigilegnjglaa
open Go.ChangeShapes Go.WideShapes Go.ChangeAt Go.RowKit
/-- The place of the first team with this Id. -/
def fndO (X : List Tm) (a : Int) : Option Int := (X.findIdx? fun t => t.id == a).map fun (i : Nat) => (i : Int)
def fndI (X : List Tm) (a : Int) : Int := (fndO X a).getD (-1)
def fndA (X : List Tm) (m : Nat) (a : Int) : Option Int := ((X.drop m).findIdx? fun t => t.id == a).map fun (i : Nat) => ((i + m : Nat) : Int)
theorem fndA_zero (X : List Tm) : fndA X 0 = fndO X := by funext a; unfold fndA fndO; simp
theorem fndA_end {X : List Tm} {n : Nat} (h : X.length = n) : fndA X n = fun _ => none := by
  funext a
  unfold fndA
  rw [List.drop_eq_nil_of_le (by omega)]
  rfl
theorem fndA_succ {X : List Tm} {j : Nat} (h : j < X.length) : fndA X j = putF (fndA X (j + 1)) X[j].id j := by
  funext a
  unfold fndA putF
  rw [List.drop_eq_getElem_cons h, List.findIdx?_cons]
  by_cases e : a = X[j].id
  · subst e
    simp
  · rw [if_neg e]
    have e' : (X[j].id == a) = false := by simpa using fun e2 => e e2.symm
    rw [e']
    simp only [Bool.false_eq_true, if_false, Option.map_map]
    congr 1
    funext i
    simp only [Function.comp]
    omega
theorem fndO_some {X : List Tm} {a v : Int} (h : fndO X a = some v) : ∃ i : Nat, v = i ∧ ∃ hi : i < X.length, X[i].id = a ∧ ∀ j (hj : j < X.length), j < i → X[j].id ≠ a := by
  unfold fndO at h
  obtain ⟨i, hi, rfl⟩ := Option.map_eq_some_iff.1 h
  obtain ⟨h1, h2, h3⟩ := List.findIdx?_eq_some_iff_getElem.1 hi
  exact ⟨i, rfl, h1, by simpa using h2, fun j hj hji => by simpa using h3 j hji⟩
theorem fndO_none {X : List Tm} {a : Int} (h : fndO X a = none) : ∀ x ∈ X, x.id ≠ a := by
  unfold fndO at h
  have h2 := List.findIdx?_eq_none_iff.1 (Option.map_eq_none_iff.1 h)
  intro x hx
  simpa using h2 x hx
theorem fndO_at {X : List Tm} {i : Nat} (hi : i < X.length) (h : ∀ j (hj : j < X.length), j < i → X[j].id ≠ X[i].id) : fndO X X[i].id = some (i : Int) := by
  unfold fndO
  rw [List.findIdx?_eq_some_iff_getElem.2 ⟨hi, by simp, fun j hj => by simpa using h j (by omega) hj⟩]
  rfl
theorem fndO_no {X : List Tm} {a : Int} (h : ∀ x ∈ X, x.id ≠ a) : fndO X a = none := by
  unfold fndO
  rw [List.findIdx?_eq_none_iff.2 (fun x hx => by simpa using h x hx)]
  rfl
theorem fndI_none {X : List Tm} {a : Int} (h : fndO X a = none) : fndI X a = -1 := by unfold fndI; rw [h]; rfl
theorem fndI_some {X : List Tm} {a v : Int} (h : fndO X a = some v) : fndI X a = v := by unfold fndI; rw [h]; rfl
/-- What the map has when the places js have come. -/
def plF (X : List Tm) (js : List Nat) : Int → Option Int := js.foldl (fun f j => putF f (X.getD j tmD).id (plN X j)) (fun _ => none)
theorem plF_snoc (X : List Tm) (js : List Nat) (j : Nat) : plF X (js ++ [j]) = putF (plF X js) (X.getD j tmD).id (plN X j) := by unfold plF; rw [List.foldl_append]; rfl
theorem plF_dn {X : List Tm} {N : Nat} (hl : X.length = N) : ∀ m, m ≤ N → plF X (dnL N (N - m)) = fndA X (N - m)
  | 0, _ => by rw [Nat.sub_zero, dnL_all, fndA_end hl]; rfl
  | m + 1, h => by
    have hj : N - (m + 1) < N := by omega
    have hjX : N - (m + 1) < X.length := by omega
    have e : N - (m + 1) + 1 = N - m := by omega
    rw [dnL_snoc hj, plF_snoc, e, plF_dn hl m (by omega), fndA_succ hjX, e, plN_at hjX]
    congr 1
    simp [List.getD, List.getElem?_eq_getElem hjX]
theorem plF_all {X : List Tm} {N : Nat} (hl : X.length = N) : plF X (dnL N 0) = fndO X := by
  have := plF_dn hl N (Nat.le_refl _)
  rwa [Nat.sub_self, fndA_zero] at this
/-- b is in Met of the first team a. -/
def hmB (X : List Tm) (a b : Int) : Bool := match fndO X a with | none => false | some v => (X.getD v.toNat tmD).met.contains b
theorem hm_none {X : List Tm} {a b : Int} (h : fndO X a = none) : hmB X a b = false := by unfold hmB; rw [h]
theorem hm_some {X : List Tm} {a b v : Int} (h : fndO X a = some v) : hmB X a b = (X.getD v.toNat tmD).met.contains b := by unfold hmB; rw [h]
end Go.Proofs.Ythkigilegnjglaa
