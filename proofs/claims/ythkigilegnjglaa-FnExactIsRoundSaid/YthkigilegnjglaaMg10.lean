/- Mathematics of valid judges (juB). No conditions. -/
import Derived.Test.YthkigilegnjglaaMg5
import Derived.Test.YthkigilegnjglaaMg9
namespace Go.Proofs.Ythkigilegnjglaa
open Go.ChangeShapes Go.WideShapes Go.ChangeAt Go.RowKit
def juIds (X : List Jd) : List Int := X.map Jd.id
def juOk (x : Jd) : Bool := inr x.club 1 99 && ascB x.seen
def juB (X : List Jd) : Bool := ascB (juIds X) && (X.all juOk && decide (X.length ≤ 10))
/-- What the model looks at, at k. -/
def juAt (X : List Jd) (k : Nat) : Bool := match X[k]? with | none => false | some p => ascAt (juIds X) k && juOk p
theorem juAt_at {X : List Jd} {k : Nat} (h : k < X.length) : juAt X k = (ascAt (juIds X) k && juOk X[k]) := by unfold juAt; rw [List.getElem?_eq_getElem h]
theorem juAt_a {X : List Jd} {k : Nat} {x : Jd} (h : juAt X k = (ascAt (juIds X) k && juOk x)) (h1 : ascAt (juIds X) k = false) : juAt X k = false := by rw [h, h1, Bool.false_and]
theorem juAt_c {X : List Jd} {k : Nat} {x : Jd} (h : juAt X k = (ascAt (juIds X) k && juOk x)) (h1 : inr x.club 1 99 = false) : juAt X k = false := by rw [h]; unfold juOk; rw [h1, Bool.false_and, Bool.and_false]
theorem juAt_s {X : List Jd} {k : Nat} {x : Jd} (h : juAt X k = (ascAt (juIds X) k && juOk x)) (h1 : ascB x.seen = false) : juAt X k = false := by rw [h]; unfold juOk; rw [h1, Bool.and_false, Bool.and_false]
theorem juAt_y {X : List Jd} {k : Nat} {x : Jd} (h : juAt X k = (ascAt (juIds X) k && juOk x)) (h1 : ascAt (juIds X) k = true) (h2 : inr x.club 1 99 = true) (h3 : ascB x.seen = true) : juAt X k = true := by rw [h]; unfold juOk; rw [h1, h2, h3]; rfl
theorem ju_all {X : List Jd} {n : Nat} (hl : X.length = n) (h : (List.range n).all (juAt X) = true) : juB X = decide (n ≤ 10) := by
  have h1 : ∀ k (hk : k < X.length), (ascAt (juIds X) k && juOk X[k]) = true := fun k hk => by
    have := List.all_eq_true.1 h k (List.mem_range.2 (by omega))
    rw [juAt_at hk] at this
    exact this
  have h2 : ascB (juIds X) = true := by
    unfold ascB
    rw [List.all_eq_true]
    intro k hk
    have := h1 k (by have := List.mem_range.1 hk; unfold juIds at this; simp at this; omega)
    exact (Bool.and_eq_true_iff.1 this).1
  have h3 : X.all juOk = true := by
    rw [List.all_eq_true]
    intro x hx
    obtain ⟨k, hk, rfl⟩ := List.getElem_of_mem hx
    exact (Bool.and_eq_true_iff.1 (h1 k hk)).2
  unfold juB
  rw [h2, h3, hl, Bool.true_and, Bool.true_and]
theorem ju_no {X : List Jd} {k : Nat} (hk : k < X.length) (h : juAt X k = false) : juB X = false := by
  rw [juAt_at hk] at h
  rcases Bool.and_eq_false_iff.1 h with h | h
  · unfold juB
    rw [asc_no (by unfold juIds; simpa using hk) h, Bool.false_and]
  · unfold juB
    have : X.all juOk = false := by rw [List.all_eq_false]; exact ⟨X[k], List.getElem_mem _, by simp [h]⟩
    rw [this, Bool.false_and, Bool.and_false]
theorem ju_snoc {X : List Jd} {k : Nat} (h : (List.range k).all (juAt X) = true) (h2 : juAt X k = true) : (List.range (k + 1)).all (juAt X) = true := by
  rw [List.range_succ, List.all_append, h, List.all_cons, h2]
  rfl
theorem ju_big {X : List Jd} (h : 10 < X.length) : juB X = false := by
  unfold juB
  rw [decide_eq_false (show ¬ X.length ≤ 10 by omega), Bool.and_false, Bool.and_false]
theorem ju_noasc {X : List Jd} (h : ascB (juIds X) = false) : juB X = false := by unfold juB; rw [h, Bool.false_and]
theorem ju_noseat {X : List Jd} {k : Nat} (hk : k < X.length) (h : juOk X[k] = false) : juB X = false := by
  unfold juB
  have : X.all juOk = false := by rw [List.all_eq_false]; exact ⟨X[k], List.getElem_mem _, by simp [h]⟩
  rw [this, Bool.false_and, Bool.and_false]
theorem ju_yes {X : List Jd} (h1 : ascB (juIds X) = true) (h2 : (X.take X.length).all juOk = true) (h3 : X.length ≤ 10) : juB X = true := by
  unfold juB
  rw [List.take_of_length_le (Nat.le_refl _)] at h2
  rw [h1, h2, decide_eq_true h3]; rfl
theorem ju_allsnoc {X : List Jd} {k : Nat} (h : (X.take k).all juOk = true) (hk : k < X.length) (h2 : juOk X[k] = true) : (X.take (k + 1)).all juOk = true := by
  rw [List.take_succ_eq_append_getElem hk, List.all_append, h, List.all_cons, h2]
  rfl
theorem juOk_c {x : Jd} (h : inr x.club 1 99 = false) : juOk x = false := by unfold juOk; rw [h, Bool.false_and]
theorem juOk_s {x : Jd} (h : ascB x.seen = false) : juOk x = false := by unfold juOk; rw [h, Bool.and_false]
theorem juOk_y {x : Jd} (h : inr x.club 1 99 = true) (h2 : ascB x.seen = true) : juOk x = true := by unfold juOk; rw [h, h2]; rfl
theorem ju_len {X : List Jd} (h : juB X = true) : X.length ≤ 10 := by
  unfold juB at h
  rw [Bool.and_eq_true, Bool.and_eq_true] at h
  exact of_decide_eq_true h.2.2
theorem ju_asc {X : List Jd} (h : juB X = true) : ascB (juIds X) = true := by
  unfold juB at h
  rw [Bool.and_eq_true] at h
  exact h.1
theorem juD {X : List Jd} {k : Nat} (hk : k < X.length) : (juIds X).getD k 0 = X[k].id := by
  have : k < (juIds X).length := by unfold juIds; simpa using hk
  rw [ascD this]; simp [juIds]
end Go.Proofs.Ythkigilegnjglaa

/- Mathematics of MayJudge (mjO, mjB). No conditions. -/
namespace Go.Proofs.Ythkigilegnjglaa
open Go.ChangeShapes Go.WideShapes Go.ChangeAt Go.RowKit
def tmC (X : List Tm) (v : Int) : Int := (X.getD v.toNat tmD).club
/-- The judge may judge the first team with this Id, as far as that team goes. -/
def mjO (X : List Tm) (j : Jd) (a : Int) : Bool := match fndO X a with | none => false | some v => decide (tmC X v ≠ j.club) && !(j.seen.contains a)
def mjB (X : List Tm) (j : Jd) (p q : Int) : Bool := mjO X j p && mjO X j q
theorem mjO_none {X : List Tm} {j : Jd} {a : Int} (h : fndO X a = none) : mjO X j a = false := by unfold mjO; rw [h]
theorem mjO_club {X : List Tm} {j : Jd} {a v : Int} {x : Tm} (h : fndO X a = some v) (hx : X.getD v.toNat tmD = x) (h2 : x.club = j.club) : mjO X j a = false := by
  unfold mjO tmC; rw [h]; simp only [hx, h2]; simp
theorem mjO_seen {X : List Tm} {j : Jd} {a v : Int} (h : fndO X a = some v) (h2 : j.seen.contains a = true) : mjO X j a = false := by
  unfold mjO; rw [h]; simp only [h2]; simp
theorem mjO_yes {X : List Tm} {j : Jd} {a v : Int} {x : Tm} (h : fndO X a = some v) (hx : X.getD v.toNat tmD = x) (h2 : x.club ≠ j.club) (h3 : j.seen.contains a = false) : mjO X j a = true := by
  unfold mjO tmC; rw [h]; simp only [hx, h3]; simp [h2]
theorem mjB_l {X : List Tm} {j : Jd} {p q : Int} (h : mjO X j p = false) : mjB X j p q = false := by unfold mjB; rw [h, Bool.false_and]
theorem mjB_r {X : List Tm} {j : Jd} {p q : Int} (h : mjO X j q = false) : mjB X j p q = false := by unfold mjB; rw [h, Bool.and_false]
theorem mjB_y {X : List Tm} {j : Jd} {p q : Int} (h : mjO X j p = true) (h2 : mjO X j q = true) : mjB X j p q = true := by unfold mjB; rw [h, h2]; rfl
theorem tmG {X : List Tm} {i : Nat} (h : i < X.length) : X.getD (i : Int).toNat tmD = X[i] := by simp [List.getD, List.getElem?_eq_getElem h]
theorem alloc_m (w : World) (o : Obj) : Below w.heap.size w (w.alloc o) := (Below.refl _ _).alloc (Nat.le_refl _) o
theorem nwc5 {w w' : World} {p : Addr} {v : Value} (r : Below w.heap.size w w') (h : w.cell? p = some v) : w'.cell? p = some v := (r.cell (p := p) (cell_lt h)).trans h
end Go.Proofs.Ythkigilegnjglaa

/- Mathematics of mutual meetings: what the map says at the end is what the model asks (mu_iff). No conditions. -/
namespace Go.Proofs.Ythkigilegnjglaa
open Go.ChangeShapes Go.WideShapes Go.ChangeAt Go.RowKit
def evT (x : Tm) : List (Int × Int) := x.met.map fun q => (x.id, q)
def evs (X : List Tm) : List (Int × Int) := X.flatMap evT
theorem count_evT (x : Tm) (q : Int) : (evT x).count (x.id, q) = x.met.count q := by
  unfold evT
  induction x.met with
  | nil => rfl
  | cons y ys ih =>
    rw [List.map_cons, List.count_cons, List.count_cons, ih]
    by_cases h : y = q <;> simp [h]
theorem count_evT_ne {x : Tm} {p q : Int} (h : x.id ≠ p) : (evT x).count (p, q) = 0 := by
  rw [List.count_eq_zero]
  unfold evT
  intro hm
  obtain ⟨y, _, e⟩ := List.mem_map.1 hm
  exact h (congrArg Prod.fst e)
theorem count_none {X : List Tm} {p q : Int} (h : ∀ x ∈ X, x.id ≠ p) : (evs X).count (p, q) = 0 := by
  rw [List.count_eq_zero]
  unfold evs
  intro hm
  obtain ⟨x, hx, h2⟩ := List.mem_flatMap.1 hm
  unfold evT at h2
  obtain ⟨y, _, e⟩ := List.mem_map.1 h2
  exact h x hx (congrArg Prod.fst e)
theorem count_evs {X : List Tm} (hnd : (X.map Tm.id).Nodup) {x : Tm} (hx : x ∈ X) (q : Int) : (evs X).count (x.id, q) = x.met.count q := by
  induction X with
  | nil => cases hx
  | cons y ys ih =>
    rw [List.map_cons, List.nodup_cons] at hnd
    have e : evs (y :: ys) = evT y ++ evs ys := rfl
    rw [e, List.count_append]
    rcases List.mem_cons.1 hx with rfl | h
    · rw [count_evT, count_none (fun z hz e => hnd.1 (by rw [← e]; exact List.mem_map_of_mem hz))]
      omega
    · rw [count_evT_ne (fun e => hnd.1 (by rw [e]; exact List.mem_map_of_mem h)), ih hnd.2 h]
      omega
theorem asc_nodup {S : List Int} (h : ascB S = true) : S.Nodup := by
  rw [List.nodup_iff_pairwise_ne, List.pairwise_iff_getElem]
  intro i j hi hj hij e
  have := asc_lt h i j hj hij
  omega
/-- What the model asks of the meeting with m in the Met of the team at i. -/
def muAt (X : List Tm) (i : Nat) (m : Int) : Bool := match fndO X m with
  | none => false
  | some v => decide (v ≠ (i : Int)) && ((X.getD v.toNat tmD).met.count (X.getD i tmD).id == (X.getD i tmD).met.count (X.getD v.toNat tmD).id)
theorem fnd_asc {X : List Tm} (h : ascB (X.map Tm.id) = true) {j : Nat} (hj : j < X.length) : fndO X X[j].id = some (j : Int) := fndO_at hj fun k hk hkj e => by
  have := asc_lt h k j (by simpa using hj) hkj
  simp at this
  omega
theorem mu_iff {X : List Tm} (h : ascB (X.map Tm.id) = true) (hself : ∀ x ∈ X, x.id ∉ x.met) : (∀ e, (gE (evs X) e).isSome = false) ↔ ∀ i (hi : i < X.length), ∀ m ∈ X[i].met, muAt X i m = true := by
  have hnd := asc_nodup h
  have gd : ∀ {i : Nat} (hi : i < X.length), X.getD i tmD = X[i] := fun hi => by simp [List.getD, List.getElem?_eq_getElem hi]
  rw [gE_empty]
  constructor
  · intro hall i hi m hm
    have h1 := hall (X[i].id, m)
    rw [count_evs hnd (List.getElem_mem hi)] at h1
    have hpos : 0 < X[i].met.count m := List.count_pos_iff.2 hm
    unfold muAt
    cases hf : fndO X m with
    | none =>
      exfalso
      have := count_none (X := X) (q := X[i].id) (fndO_none hf)
      unfold swP at h1
      simp only at h1
      omega
    | some v =>
      obtain ⟨j, rfl, hj, hje, _⟩ := fndO_some hf
      have hne : j ≠ i := fun e => by subst e; exact hself _ (List.getElem_mem hj) (by rw [hje]; exact hm)
      have h2 := count_evs hnd (List.getElem_mem hj) X[i].id
      rw [hje] at h2
      unfold swP at h1
      simp only at h1
      rw [h2] at h1
      simp only [Int.toNat_natCast, gd hi, gd hj, hje]
      simp only [Bool.and_eq_true, decide_eq_true_eq, beq_iff_eq]
      exact ⟨by omega, h1.symm⟩
  · intro hall
    have key : ∀ p q, (evs X).count (p, q) ≠ 0 → (evs X).count (p, q) = (evs X).count (q, p) := fun p q hc => by
      have hin : (p, q) ∈ evs X := List.count_pos_iff.1 (Nat.pos_of_ne_zero hc)
      unfold evs at hin
      obtain ⟨x, hx, h2⟩ := List.mem_flatMap.1 hin
      unfold evT at h2
      obtain ⟨y, hy, e⟩ := List.mem_map.1 h2
      have e1 : x.id = p := congrArg Prod.fst e
      have e2 : y = q := congrArg Prod.snd e
      subst e1
      subst e2
      obtain ⟨i, hi, rfl⟩ := List.getElem_of_mem hx
      have h3 := hall i hi y hy
      unfold muAt at h3
      cases hf : fndO X y with
      | none => rw [hf] at h3; cases h3
      | some v =>
        obtain ⟨j, rfl, hj, hje, _⟩ := fndO_some hf
        rw [hf] at h3
        simp only [Int.toNat_natCast, gd hi, gd hj, Bool.and_eq_true, decide_eq_true_eq, beq_iff_eq] at h3
        have h4 := count_evs hnd (List.getElem_mem hj) X[i].id
        rw [hje] at h4 h3
        rw [count_evs hnd (List.getElem_mem hi), h4, h3.2]
    intro e
    by_cases h1 : (evs X).count e = 0
    · by_cases h2 : (evs X).count (swP e) = 0
      · rw [h1, h2]
      · exact (key e.2 e.1 h2).symm
    · exact key e.1 e.2 h1
/-- A team that met itself keeps the model from it. -/
theorem mu_self {X : List Tm} (h : ascB (X.map Tm.id) = true) {i : Nat} (hi : i < X.length) : muAt X i X[i].id = false := by
  unfold muAt
  rw [fnd_asc h hi]
  simp
end Go.Proofs.Ythkigilegnjglaa
