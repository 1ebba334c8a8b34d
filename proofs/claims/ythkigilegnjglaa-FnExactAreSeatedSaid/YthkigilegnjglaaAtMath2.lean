/- Mathematics of mutual meetings: what the map says at the end is what the model asks (mu_iff). No conditions. -/
import Derived.Test.YthkigilegnjglaaAtMath
import Derived.Test.YthkigilegnjglaaMg9
namespace Go.Proofs.Ythkigilegnjglaa
open Go.ChangeShapes Go.WideShapes Go.ChangeAt Go.RowKit
def evT (x : Tm) : List (Int × Int) := x.met.map fun q => (x.id, q)
def evs (X : List Tm) : List (Int × Int) := X.flatMap evT
theorem count_evT (x : Tm) (q : Int) : (evT x).count (x.id, q) = x.met.count q := by
  unfold evT
  induction x.met with
  | nil => rfl
  | cons y ys ih =>
    rw [List.map_cons, List.count_cons, List.count_cons, ih]
    by_cases h : y = q <;> simp [h]
theorem count_evT_ne {x : Tm} {p q : Int} (h : x.id ≠ p) : (evT x).count (p, q) = 0 := by
  rw [List.count_eq_zero]
  unfold evT
  intro hm
  obtain ⟨y, _, e⟩ := List.mem_map.1 hm
  exact h (congrArg Prod.fst e)
theorem count_none {X : List Tm} {p q : Int} (h : ∀ x ∈ X, x.id ≠ p) : (evs X).count (p, q) = 0 := by
  rw [List.count_eq_zero]
  unfold evs
  intro hm
  obtain ⟨x, hx, h2⟩ := List.mem_flatMap.1 hm
  unfold evT at h2
  obtain ⟨y, _, e⟩ := List.mem_map.1 h2
  exact h x hx (congrArg Prod.fst e)
theorem count_evs {X : List Tm} (hnd : (X.map Tm.id).Nodup) {x : Tm} (hx : x ∈ X) (q : Int) : (evs X).count (x.id, q) = x.met.count q := by
  induction X with
  | nil => cases hx
  | cons y ys ih =>
    rw [List.map_cons, List.nodup_cons] at hnd
    have e : evs (y :: ys) = evT y ++ evs ys := rfl
    rw [e, List.count_append]
    rcases List.mem_cons.1 hx with rfl | h
    · rw [count_evT, count_none (fun z hz e => hnd.1 (by rw [← e]; exact List.mem_map_of_mem hz))]
      omega
    · rw [count_evT_ne (fun e => hnd.1 (by rw [e]; exact List.mem_map_of_mem h)), ih hnd.2 h]
      omega
theorem asc_nodup {S : List Int} (h : ascB S = true) : S.Nodup := by
  rw [List.nodup_iff_pairwise_ne, List.pairwise_iff_getElem]
  intro i j hi hj hij e
  have := asc_lt h i j hj hij
  omega
/-- What the model asks of the meeting with m in the Met of the team at i. -/
def muAt (X : List Tm) (i : Nat) (m : Int) : Bool := match fndO X m with
  | none => false
  | some v => decide (v ≠ (i : Int)) && ((X.getD v.toNat tmD).met.count (X.getD i tmD).id == (X.getD i tmD).met.count (X.getD v.toNat tmD).id)
theorem fnd_asc {X : List Tm} (h : ascB (X.map Tm.id) = true) {j : Nat} (hj : j < X.length) : fndO X X[j].id = some (j : Int) := fndO_at hj fun k hk hkj e => by
  have := asc_lt h k j (by simpa using hj) hkj
  simp at this
  omega
theorem mu_iff {X : List Tm} (h : ascB (X.map Tm.id) = true) (hself : ∀ x ∈ X, x.id ∉ x.met) : (∀ e, (gE (evs X) e).isSome = false) ↔ ∀ i (hi : i < X.length), ∀ m ∈ X[i].met, muAt X i m = true := by
  have hnd := asc_nodup h
  have gd : ∀ {i : Nat} (hi : i < X.length), X.getD i tmD = X[i] := fun hi => by simp [List.getD, List.getElem?_eq_getElem hi]
  rw [gE_empty]
  constructor
  · intro hall i hi m hm
    have h1 := hall (X[i].id, m)
    rw [count_evs hnd (List.getElem_mem hi)] at h1
    have hpos : 0 < X[i].met.count m := List.count_pos_iff.2 hm
    unfold muAt
    cases hf : fndO X m with
    | none =>
      exfalso
      have := count_none (X := X) (q := X[i].id) (fndO_none hf)
      unfold swP at h1
      simp only at h1
      omega
    | some v =>
      obtain ⟨j, rfl, hj, hje, _⟩ := fndO_some hf
      have hne : j ≠ i := fun e => by subst e; exact hself _ (List.getElem_mem hj) (by rw [hje]; exact hm)
      have h2 := count_evs hnd (List.getElem_mem hj) X[i].id
      rw [hje] at h2
      unfold swP at h1
      simp only at h1
      rw [h2] at h1
      simp only [Int.toNat_natCast, gd hi, gd hj, hje]
      simp only [Bool.and_eq_true, decide_eq_true_eq, beq_iff_eq]
      exact ⟨by omega, h1.symm⟩
  · intro hall
    have key : ∀ p q, (evs X).count (p, q) ≠ 0 → (evs X).count (p, q) = (evs X).count (q, p) := fun p q hc => by
      have hin : (p, q) ∈ evs X := List.count_pos_iff.1 (Nat.pos_of_ne_zero hc)
      unfold evs at hin
      obtain ⟨x, hx, h2⟩ := List.mem_flatMap.1 hin
      unfold evT at h2
      obtain ⟨y, hy, e⟩ := List.mem_map.1 h2
      have e1 : x.id = p := congrArg Prod.fst e
      have e2 : y = q := congrArg Prod.snd e
      subst e1
      subst e2
      obtain ⟨i, hi, rfl⟩ := List.getElem_of_mem hx
      have h3 := hall i hi y hy
      unfold muAt at h3
      cases hf : fndO X y with
      | none => rw [hf] at h3; cases h3
      | some v =>
        obtain ⟨j, rfl, hj, hje, _⟩ := fndO_some hf
        rw [hf] at h3
        simp only [Int.toNat_natCast, gd hi, gd hj, Bool.and_eq_true, decide_eq_true_eq, beq_iff_eq] at h3
        have h4 := count_evs hnd (List.getElem_mem hj) X[i].id
        rw [hje] at h4 h3
        rw [count_evs hnd (List.getElem_mem hi), h4, h3.2]
    intro e
    by_cases h1 : (evs X).count e = 0
    · by_cases h2 : (evs X).count (swP e) = 0
      · rw [h1, h2]
      · exact (key e.2 e.1 h2).symm
    · exact key e.1 e.2 h1
/-- A team that met itself keeps the model from it. -/
theorem mu_self {X : List Tm} (h : ascB (X.map Tm.id) = true) {i : Nat} (hi : i < X.length) : muAt X i X[i].id = false := by
  unfold muAt
  rw [fnd_asc h hi]
  simp
end Go.Proofs.Ythkigilegnjglaa
