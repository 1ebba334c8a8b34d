/- Contract of the model of OpenClaims. No conditions but that the slices have at most 2^40 elements. -/
import Derived.Test.YtncndlojceiejaaGroundM3
namespace Go.Proofs.Ytncndlojceiejaa
open Go.ChangeShapes Go.WideShapes Go.ChangeAt Go.RowKit
set_option maxRecDepth 100000
def openP (N : Int) (X : List (List Int)) (k : Nat) : Bool := !((grd N X).contains (k : Int)) && !((hit N X (grd N X)).contains (k : Int))
def opnT (N : Int) (X : List (List Int)) (k : Nat) : List Int := ((List.range k).filter (openP N X)).map fun (j : Nat) => (j : Int)
/-- The claims whose label is open. -/
def opns (N : Int) (X : List (List Int)) : List Int := opnT N X (labs N X).length
theorem opnT_yes {N : Int} {X : List (List Int)} {k : Nat} (h : openP N X k = true) : opnT N X (k + 1) = opnT N X k ++ [(k : Int)] := by simp [opnT, List.range_succ, h]
theorem opnT_no {N : Int} {X : List (List Int)} {k : Nat} (h : openP N X k = false) : opnT N X (k + 1) = opnT N X k := by simp [opnT, List.range_succ, h]
theorem opnT_len (N : Int) (X : List (List Int)) (k : Nat) : (opnT N X k).length ≤ k := by
  unfold opnT
  rw [List.length_map]
  exact Nat.le_trans (List.length_filter_le _ _) (by simp)
theorem labs_len (N : Int) (X : List (List Int)) : (labs N X).length ≤ 10 := by
  unfold labs
  split
  · rename_i h
    obtain ⟨m, rfl, hm, _, _⟩ := gB_ok h
    rw [labT_len]
    omega
  · simp
theorem labs_at (N : Int) (X : List (List Int)) {k : Nat} (h : k < (labs N X).length) : (labs N X)[k] = lab N X k := by
  unfold labs at h ⊢
  split
  · simp [labT]
  · rename_i hg
    rw [if_neg hg] at h
    simp at h
theorem lab_eq (N : Int) (X : List (List Int)) (k : Nat) : ((lab N X k).toList == (⟨#[111, 112, 101, 110]⟩ : ByteArray).toList) = openP N X k := by
  unfold lab openP
  have e1 : ((⟨#[105, 110]⟩ : ByteArray).toList == (⟨#[111, 112, 101, 110]⟩ : ByteArray).toList) = false := by rw [ByteArray.toList_eq, ByteArray.toList_eq]; rfl
  have e2 : ((⟨#[111, 117, 116]⟩ : ByteArray).toList == (⟨#[111, 112, 101, 110]⟩ : ByteArray).toList) = false := by rw [ByteArray.toList_eq, ByteArray.toList_eq]; rfl
  have e3 : ((⟨#[111, 112, 101, 110]⟩ : ByteArray).toList == (⟨#[111, 112, 101, 110]⟩ : ByteArray).toList) = true := by rw [ByteArray.toList_eq]; rfl
  cases (grd N X).contains (k : Int)
  · cases (hit N X (grd N X)).contains (k : Int)
    · exact e3
    · exact e2
  · exact e1
theorem svs_at {w : World} {B : Nat} {A : Option Addr} {zs : List ByteArray} (h : Rd w B A (svs zs)) {k : Nat} (hk : k < zs.length) : ∃ ad, A = some ad ∧ ad.block < B ∧ w.cell? (ad.add k) = some (.string zs[k]) := by
  obtain ⟨ad, e, hb, hc⟩ := h.at_ (k := k) (by rw [svs_len]; exact hk)
  exact ⟨ad, e, hb, by rw [hc]; simp [svs]⟩
end Go.Proofs.Ytncndlojceiejaa
