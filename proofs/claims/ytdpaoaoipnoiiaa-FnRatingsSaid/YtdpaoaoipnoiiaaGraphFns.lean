/- Contracts of chapter 4's models. No conditions but that the slices have at most 2^40 elements. -/
import Derived.Test.YtdpaoaoipnoiiaaGraph
import Derived.Test.YtdpaoaoipnoiiaaMg2
import Derived.Deep.RegionWith
namespace Go.Proofs.Ytdpaoaoipnoiiaa
open Go.ChangeShapes Go.WideShapes Go.ChangeAt Go.RowKit
def okA (M : Int) (a : List Int) : Bool := decide (a.length = 2) && inr (a.getD 0 0) 0 M && inr (a.getD 1 0) 0 M
def ltP (b a : List Int) : Bool := !(decide (a.getD 0 0 < b.getD 0 0) || decide (b.getD 0 0 = a.getD 0 0) && decide (a.getD 1 0 ≤ b.getD 1 0))
def okI (M : Int) (X : List (List Int)) (i : Nat) : Bool := okA M (X.getD i []) && (decide (i = 0) || ltP (X.getD (i - 1) []) (X.getD i []))
def GPre (M : Int) (X : List (List Int)) (k : Nat) : Prop := ∀ i, i < k → okI M X i = true
instance (M : Int) (X : List (List Int)) (k : Nat) : Decidable (GPre M X k) := inferInstanceAs (Decidable (∀ i, i < k → okI M X i = true))
def gB (N : Int) (X : List (List Int)) : Bool := decide (GPre (IntKind.i64.wrap (N - 1)) X X.length) && inr N 0 10
theorem gB_bad {N : Int} {X : List (List Int)} {k : Nat} (hk : k < X.length) (h : okI (IntKind.i64.wrap (N - 1)) X k = false) : gB N X = false := by
  have : ¬ GPre (IntKind.i64.wrap (N - 1)) X X.length := fun hp => by rw [hp k hk] at h; cases h
  simp [gB, this]
theorem gB_end {N : Int} {X : List (List Int)} (h : GPre (IntKind.i64.wrap (N - 1)) X X.length) : gB N X = inr N 0 10 := by simp [gB, h]
theorem GPre.succ {M : Int} {X : List (List Int)} {k : Nat} (h : GPre M X k) (hk : okI M X k = true) : GPre M X (k + 1) := fun i hi => by
  rcases Nat.lt_or_ge i k with h' | h'
  · exact h i h'
  · have : i = k := by omega
    subst this; exact hk
theorem getD_at {X : List (List Int)} {k : Nat} (h : k < X.length) : X.getD k [] = X[k] := by simp [List.getD, h]
theorem okI_two {M : Int} {X : List (List Int)} {k : Nat} (h : okI M X k = true) (hk : k < X.length) : ∃ p q, X[k] = [p, q] := by
  unfold okI okA at h
  simp only [Bool.and_eq_true, decide_eq_true_eq, getD_at hk] at h
  obtain ⟨⟨⟨h1, _⟩, _⟩, _⟩ := h
  match hx : X[k], (show X[k].length = 2 from h1) with
  | [p, q], _ => exact ⟨p, q, rfl⟩
theorem rd2 {w : World} {B : Nat} {A : Option Addr} {p q : Int} (h : Rd w B A (ivs [p, q])) : ∃ g o, A = some ⟨g, o, none⟩ ∧ g < B ∧ w.cell? ⟨g, o, none⟩ = some (.int .i64 p) ∧ w.cell? ⟨g, o + 1, none⟩ = some (.int .i64 q) := by
  obtain ⟨ad, e, hb, hc⟩ := h 0 _ rfl
  obtain ⟨ad', e', _, hc'⟩ := h 1 _ rfl
  have : ad' = ad := by rw [e] at e'; injection e' with e'; exact e'.symm
  subst this
  obtain ⟨g, o, s⟩ := ad'
  have hs : s = none := by simpa [Addr.add] using World.cell?_spot hc
  subst hs
  rw [Addr.add_lit] at hc hc'
  exact ⟨g, o, e, hb, hc, hc'⟩
theorem l1In_Q {w : World} (a lo hi : Int) {b : Bool} (hb : inr a lo hi = b) : ∀ m, Calls Try.prog 70 #[.int .i64 a, .int .i64 lo, .int .i64 hi] (w.drewN m) (fun e w' => e = .returned (.bool b) ∧ ∃ m', w' = (w.drewN m).drewN m') := fun m =>
  (l1In_any a lo hi _).mono fun e w' ⟨h1, h2⟩ => ⟨by rw [h1, hb], 0, h2.symm⟩
end Go.Proofs.Ytdpaoaoipnoiiaa
