/- The mathematics of sources (chapter 26): valid lists (srcB), where a source's root is (rootS). No conditions. -/
import Derived.Test.YtdhnhhicjjcmdaaSourceR
import Derived.Test.YtdhnhhicjjcmdaaAscMath
namespace Go.Proofs.Ytdhnhhicjjcmdaa
def fndS (X : List Src) (id : Int) : Option Nat := X.findIdx? fun x => x.1 == id
/-- The place of the source that source k repeats. -/
def parS (X : List Src) (k : Nat) : Option Nat := fndS (X.take k) (X.getD k (0, 0, 0, false)).2.1
def srcAt (X : List Src) (k : Nat) : Bool := inr (X.getD k (0, 0, 0, false)).2.2.1 1 10 && ((X.getD k (0, 0, 0, false)).2.1 == 0 || (parS X k).isSome)
def srcB (X : List Src) : Bool := decide (X.length ≤ 15) && ascB (X.map (·.1)) && (List.range X.length).all (srcAt X)
theorem src_big {X : List Src} (h : 15 < X.length) : srcB X = false := by unfold srcB; rw [decide_eq_false (by omega)]; rfl
theorem src_noasc {X : List Src} (h : ascB (X.map (·.1)) = false) : srcB X = false := by unfold srcB; rw [h]; simp
theorem src_no {X : List Src} {k : Nat} (hk : k < X.length) (h : srcAt X k = false) : srcB X = false := by
  have : (List.range X.length).all (srcAt X) = false := by rw [List.all_eq_false]; exact ⟨k, List.mem_range.2 hk, by simp [h]⟩
  unfold srcB; rw [this]; simp
theorem src_yes {X : List Src} (h1 : X.length ≤ 15) (h2 : ascB (X.map (·.1)) = true) (h3 : (List.range X.length).all (srcAt X) = true) : srcB X = true := by unfold srcB; rw [h2, h3, decide_eq_true h1]; rfl
theorem src_parts {X : List Src} (h : srcB X = true) : X.length ≤ 15 ∧ ascB (X.map (·.1)) = true ∧ ∀ k, k < X.length → srcAt X k = true := by
  unfold srcB at h
  simp only [Bool.and_eq_true, decide_eq_true_eq] at h
  exact ⟨h.1.1, h.1.2, fun k hk => List.all_eq_true.1 h.2 k (List.mem_range.2 hk)⟩
theorem src_snoc {X : List Src} {k : Nat} (h : (List.range k).all (srcAt X) = true) (h2 : srcAt X k = true) : (List.range (k + 1)).all (srcAt X) = true := by
  rw [List.range_succ, List.all_append, h, List.all_cons, h2]; rfl
theorem fnd_lt {X : List Src} {id : Int} {j : Nat} (h : fndS X id = some j) : ∃ hj : j < X.length, X[j].1 = id := by
  unfold fndS at h
  rw [List.findIdx?_eq_some_iff_getElem] at h
  obtain ⟨h1, h2, _⟩ := h
  exact ⟨h1, by simpa using h2⟩
theorem fnd_none {X : List Src} {id : Int} (h : ∀ x ∈ X, x.1 ≠ id) : fndS X id = none := by
  unfold fndS
  rw [List.findIdx?_eq_none_iff]
  intro x hx
  simpa using h x hx
theorem fnd_some {X : List Src} {id : Int} {k : Nat} (hk : k < X.length) (h : ∀ x ∈ X.take k, x.1 ≠ id) (he : X[k].1 = id) : fndS X id = some k := by
  unfold fndS
  rw [List.findIdx?_eq_some_iff_getElem]
  refine ⟨hk, by simpa using he, fun j hj => ?_⟩
  have : X[j]'(by omega) ∈ X.take k := by
    rw [List.mem_iff_getElem]
    exact ⟨j, by rw [List.length_take]; omega, by simp⟩
  simpa using h _ this
theorem par_lt {X : List Src} {k j : Nat} (h : parS X k = some j) : j < k := by
  obtain ⟨hj, _⟩ := fnd_lt h
  rw [List.length_take] at hj
  omega
def rootF (X : List Src) : Nat → Nat → Nat
  | 0, k => k
  | f + 1, k => match parS X k with | some j => rootF X f j | none => k
theorem rootF_eq (X : List Src) : ∀ (f g k : Nat), k < f → k < g → rootF X f k = rootF X g k
  | 0, _, _, h, _ => absurd h (Nat.not_lt_zero _)
  | _ + 1, 0, _, _, h => absurd h (Nat.not_lt_zero _)
  | f + 1, g + 1, k, h1, h2 => by
    unfold rootF
    cases hp : parS X k with
    | none => rfl
    | some j =>
      have := par_lt hp
      exact rootF_eq X f g j (by omega) (by omega)
def rootS (X : List Src) (k : Nat) : Nat := rootF X (k + 1) k
theorem root_none {X : List Src} {k : Nat} (h : parS X k = none) : rootS X k = k := by
  unfold rootS rootF; rw [h]
theorem root_some {X : List Src} {k j : Nat} (h : parS X k = some j) : rootS X k = rootS X j := by
  have e : rootS X k = rootF X k j := by unfold rootS; rw [rootF, h]
  rw [e]
  exact rootF_eq X k (j + 1) j (par_lt h) (by omega)
theorem root_le (X : List Src) : ∀ k, rootS X k ≤ k := by
  intro k
  induction k using Nat.strongRecOn with
  | _ k ih =>
    cases h : parS X k with
    | none => rw [root_none h]; exact Nat.le_refl _
    | some j =>
      rw [root_some h]
      have := par_lt h
      have := ih j this
      omega
theorem root_end (X : List Src) : ∀ k, parS X (rootS X k) = none := by
  intro k
  induction k using Nat.strongRecOn with
  | _ k ih =>
    cases h : parS X k with
    | none => rw [root_none h]; exact h
    | some j => rw [root_some h]; exact ih j (par_lt h)
theorem getS {X : List Src} {k : Nat} (h : k < X.length) : X.getD k (0, 0, 0, false) = X[k] := by simp [List.getD, h]
/-- In a valid list a source repeats one just if its From is not 0. -/
theorem par_zero {X : List Src} (h : srcB X = true) {k : Nat} (hk : k < X.length) : (parS X k = none ↔ X[k].2.1 = 0) := by
  obtain ⟨_, h2, h3⟩ := src_parts h
  constructor
  · intro hp
    have := h3 k hk
    unfold srcAt at this
    rw [hp] at this
    simp only [Bool.and_eq_true, Bool.or_eq_true, getS hk] at this
    rcases this.2 with e | e
    · simpa using e
    · simp at e
  · intro h0
    unfold parS
    rw [getS hk, h0]
    refine fnd_none fun x hx => ?_
    have hm := List.mem_of_mem_take hx
    obtain ⟨i, hi, rfl⟩ := List.getElem_of_mem hm
    have := asc_in h2 (k := i) (by simpa using hi)
    simp at this
    omega
end Go.Proofs.Ytdhnhhicjjcmdaa
