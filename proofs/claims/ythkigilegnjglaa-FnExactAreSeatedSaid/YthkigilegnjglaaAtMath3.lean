/- Mathematics of valid teams (atB). No conditions. -/
import Derived.Test.YthkigilegnjglaaAtMath2
import Derived.Test.YthkigilegnjglaaIsTeam
namespace Go.Proofs.Ythkigilegnjglaa
open Go.ChangeShapes Go.WideShapes Go.ChangeAt Go.RowKit
/-- What one team has to keep, but for having met itself. -/
def tmP (x : Tm) : Bool := inr x.club 1 99 && inr x.wins 0 x.met.length && inr x.firsts 0 x.met.length && inr x.pts 0 100000 && decide (x.met.length ≤ 20)
theorem tmF_eq (x : Tm) : tmF x = (tmP x && !(x.met.contains x.id)) := rfl
/-- All that the model asks of the team at k. -/
def atAt (X : List Tm) (k : Nat) : Bool := ascAt (X.map Tm.id) k && (tmP (X.getD k tmD) && (X.getD k tmD).met.all (muAt X k))
def atB (X : List Tm) : Bool := (List.range X.length).all (atAt X) && decide (X.length ≤ 10)
theorem te_gd {X : List Tm} {k : Nat} (h : k < X.length) : X.getD k tmD = X[k] := by simp [List.getD, List.getElem?_eq_getElem h]
theorem te_ids {X : List Tm} {k : Nat} (h : k < X.length) : (X.map Tm.id).getD k 0 = X[k].id := by
  rw [ascD (by simpa using h)]; simp
theorem atAt_a {X : List Tm} {k : Nat} (h : ascAt (X.map Tm.id) k = false) : atAt X k = false := by unfold atAt; rw [h, Bool.false_and]
theorem atAt_p {X : List Tm} {k : Nat} {x : Tm} (hx : X.getD k tmD = x) (h : tmP x = false) : atAt X k = false := by unfold atAt; rw [hx, h, Bool.false_and, Bool.and_false]
theorem atAt_m {X : List Tm} {k : Nat} {x : Tm} {m : Int} (hx : X.getD k tmD = x) (hm : m ∈ x.met) (h : muAt X k m = false) : atAt X k = false := by
  unfold atAt
  have : x.met.all (muAt X k) = false := by rw [List.all_eq_false]; exact ⟨m, hm, by simp [h]⟩
  rw [hx, this, Bool.and_false, Bool.and_false]
theorem atAt_y {X : List Tm} {k : Nat} {x : Tm} (hx : X.getD k tmD = x) (h1 : ascAt (X.map Tm.id) k = true) (h2 : tmP x = true) (h3 : x.met.all (muAt X k) = true) : atAt X k = true := by unfold atAt; rw [hx, h1, h2, h3]; rfl
theorem te_no {X : List Tm} {k : Nat} (hk : k < X.length) (h : atAt X k = false) : atB X = false := by
  unfold atB
  have : (List.range X.length).all (atAt X) = false := by rw [List.all_eq_false]; exact ⟨k, List.mem_range.2 hk, by simp [h]⟩
  rw [this, Bool.false_and]
theorem te_snoc {X : List Tm} {k : Nat} (h : (List.range k).all (atAt X) = true) (h2 : atAt X k = true) : (List.range (k + 1)).all (atAt X) = true := by
  rw [List.range_succ, List.all_append, h, List.all_cons, h2]
  rfl
theorem te_all {X : List Tm} {n : Nat} (hl : X.length = n) (h : (List.range n).all (atAt X) = true) : atB X = decide (n ≤ 10) := by
  unfold atB
  rw [hl, h, Bool.true_and]
theorem te_big {X : List Tm} (h : 10 < X.length) : atB X = false := by
  unfold atB
  rw [decide_eq_false (show ¬ X.length ≤ 10 by omega), Bool.and_false]
theorem te_asc {X : List Tm} (h : atB X = true) : ascB (X.map Tm.id) = true := by
  unfold atB at h
  rw [Bool.and_eq_true] at h
  unfold ascB
  rw [List.all_eq_true]
  intro k hk
  have hk' : k < X.length := by simpa using List.mem_range.1 hk
  have := List.all_eq_true.1 h.1 k (List.mem_range.2 hk')
  unfold atAt at this
  rw [Bool.and_eq_true] at this
  exact this.1
theorem te_len {X : List Tm} (h : atB X = true) : X.length ≤ 10 := by
  unfold atB at h
  rw [Bool.and_eq_true] at h
  exact of_decide_eq_true h.2
theorem te_at {X : List Tm} (h : atB X = true) {k : Nat} (hk : k < X.length) : tmP X[k] = true ∧ ∀ m ∈ X[k].met, muAt X k m = true := by
  unfold atB at h
  rw [Bool.and_eq_true] at h
  have := List.all_eq_true.1 h.1 k (List.mem_range.2 hk)
  unfold atAt at this
  rw [te_gd hk, Bool.and_eq_true, Bool.and_eq_true] at this
  exact ⟨this.2.1, List.all_eq_true.1 this.2.2⟩
theorem te_noasc {X : List Tm} (h : ascB (X.map Tm.id) = false) : atB X = false := by
  cases hb : atB X with
  | false => rfl
  | true => rw [te_asc hb] at h; cases h
theorem te_noteam {X : List Tm} {k : Nat} (hk : k < X.length) (h : tmF X[k] = false) : atB X = false := by
  cases hb : atB X with
  | false => rfl
  | true =>
    exfalso
    have h1 := te_at hb hk
    rw [tmF_eq, h1.1, Bool.true_and] at h
    have hc : X[k].id ∈ X[k].met := by simpa using h
    have h2 := h1.2 _ hc
    rw [mu_self (te_asc hb) hk] at h2
    cases h2
theorem te_self {X : List Tm} (h : (X.take X.length).all tmF = true) : ∀ x ∈ X, x.id ∉ x.met := by
  intro x hx hm
  rw [List.take_length] at h
  have := List.all_eq_true.1 h x hx
  rw [tmF_eq] at this
  simp at this
  exact this.2 hm
theorem te_yes {X : List Tm} {b : Bool} (h1 : ascB (X.map Tm.id) = true) (h2 : (X.take X.length).all tmF = true) (h3 : X.length ≤ 10) (hb : b = true ↔ ∀ e, (gE (evs X) e).isSome = false) : b = atB X := by
  have hs := te_self h2
  rw [mu_iff h1 hs] at hb
  rw [List.take_length] at h2
  rw [Bool.eq_iff_iff, hb]
  constructor
  · intro h
    unfold atB
    rw [Bool.and_eq_true]
    refine ⟨List.all_eq_true.2 fun k hk => ?_, decide_eq_true h3⟩
    have hk' := List.mem_range.1 hk
    refine atAt_y (te_gd hk') (List.all_eq_true.1 (by unfold ascB at h1; exact h1) k (by simpa using hk')) ?_ (List.all_eq_true.2 (h k hk'))
    have := List.all_eq_true.1 h2 _ (List.getElem_mem hk')
    rw [tmF_eq, Bool.and_eq_true] at this
    exact this.1
  · intro h i hi m hm
    exact (te_at h hi).2 m hm
theorem te_allsnoc {X : List Tm} {k : Nat} (h : (X.take k).all tmF = true) (hk : k < X.length) (h2 : tmF X[k] = true) : (X.take (k + 1)).all tmF = true := by
  rw [List.take_succ_eq_append_getElem hk, List.all_append, h, List.all_cons, h2]
  rfl
theorem evs_len : ∀ {X : List Tm}, (∀ x ∈ X, x.met.length ≤ 1048576) → (evs X).length ≤ X.length * 1048576
  | [], _ => by simp [evs]
  | x :: xs, h => by
    have e : evs (x :: xs) = evT x ++ evs xs := rfl
    have h1 := h x (by simp)
    have h2 := evs_len (X := xs) (fun y hy => h y (List.mem_cons_of_mem _ hy))
    have h3 : (evT x).length = x.met.length := by unfold evT; simp
    rw [e, List.length_append, List.length_cons, h3, Nat.add_mul]
    omega
theorem evs_len' {X : List Tm} {x : Tm} {k m n : Nat} (hl : X.length = n) (hk : k ≤ n) (hn : n ≤ 1048576) (hm : m ≤ 1048576) (h : ∀ x ∈ X, x.met.length ≤ 1048576) : (evs (X.take k) ++ (evT x).take m).length ≤ 4000000000000 := by
  have h1 := evs_len (X := X.take k) (fun x hx => h x (List.mem_of_mem_take hx))
  rw [List.length_take, hl, Nat.min_eq_left hk] at h1
  rw [List.length_append, List.length_take]
  omega
theorem tmP_1 {x : Tm} (h : inr x.club 1 99 = false) : tmP x = false := by unfold tmP; simp [h]
theorem tmP_2 {x : Tm} (h : inr x.wins 0 x.met.length = false) : tmP x = false := by unfold tmP; simp [h]
theorem tmP_3 {x : Tm} (h : inr x.firsts 0 x.met.length = false) : tmP x = false := by unfold tmP; simp [h]
theorem tmP_4 {x : Tm} (h : inr x.pts 0 100000 = false) : tmP x = false := by unfold tmP; simp [h]
theorem tmP_5 {x : Tm} (h : ¬ x.met.length ≤ 20) : tmP x = false := by unfold tmP; rw [decide_eq_false h]; simp
theorem tmP_6 {x : Tm} (h1 : inr x.club 1 99 = true) (h2 : inr x.wins 0 x.met.length = true) (h3 : inr x.firsts 0 x.met.length = true) (h4 : inr x.pts 0 100000 = true) (h5 : x.met.length ≤ 20) : tmP x = true := by unfold tmP; rw [h1, h2, h3, h4, decide_eq_true h5]; rfl
theorem mu_none {X : List Tm} {i : Nat} {m : Int} (h : fndO X m = none) : muAt X i m = false := by unfold muAt; rw [h]
theorem mu_same {X : List Tm} {i : Nat} {m : Int} (h : fndO X m = some (i : Int)) : muAt X i m = false := by unfold muAt; rw [h]; simp
theorem mu_some {X : List Tm} {i j : Nat} {m : Int} {x : Tm} (h : fndO X m = some (j : Int)) (hne : ¬ j = i) (hj : j < X.length) (hx : X.getD i tmD = x) : muAt X i m = (X[j].met.count x.id == x.met.count X[j].id) := by
  unfold muAt; rw [h]
  simp only [Int.toNat_natCast, te_gd hj, hx]
  rw [decide_eq_true (show (j : Int) ≠ (i : Int) by omega), Bool.true_and]
theorem mu_cast {a b : Nat} : (a == b) = decide ((a : Int) = (b : Int)) := by
  by_cases h : a = b
  · subst h; simp
  · rw [decide_eq_false (by omega)]; simpa using h
theorem mu_snoc {X : List Tm} {i k : Nat} {l : List Int} (h : (l.take k).all (muAt X i) = true) (hk : k < l.length) (h2 : muAt X i l[k] = true) : (l.take (k + 1)).all (muAt X i) = true := by
  rw [List.take_succ_eq_append_getElem hk, List.all_append, h, List.all_cons, h2]
  rfl
theorem mu_end {X : List Tm} {i n : Nat} {l : List Int} (hl : l.length = n) (h : (l.take n).all (muAt X i) = true) : l.all (muAt X i) = true := by
  rwa [List.take_of_length_le (by omega)] at h
end Go.Proofs.Ythkigilegnjglaa
