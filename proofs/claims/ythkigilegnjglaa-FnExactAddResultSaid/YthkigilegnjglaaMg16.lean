/- Mathematics of valid teams (atB). No conditions. -/
import Derived.Test.YthkigilegnjglaaMg14
import Derived.Test.YthkigilegnjglaaMg15
import Derived.Sort.Grow
namespace Go.Proofs.Ythkigilegnjglaa
open Go.ChangeShapes Go.WideShapes Go.ChangeAt Go.RowKit
/-- What one team has to keep, but for having met itself. -/
def tmP (x : Tm) : Bool := inr x.club 1 99 && inr x.wins 0 x.met.length && inr x.firsts 0 x.met.length && inr x.pts 0 100000 && decide (x.met.length ≤ 20)
theorem tmF_eq (x : Tm) : tmF x = (tmP x && !(x.met.contains x.id)) := rfl
/-- All that the model asks of the team at k. -/
def atAt (X : List Tm) (k : Nat) : Bool := ascAt (X.map Tm.id) k && (tmP (X.getD k tmD) && (X.getD k tmD).met.all (muAt X k))
def atB (X : List Tm) : Bool := (List.range X.length).all (atAt X) && decide (X.length ≤ 10)
theorem te_gd {X : List Tm} {k : Nat} (h : k < X.length) : X.getD k tmD = X[k] := by simp [List.getD, List.getElem?_eq_getElem h]
theorem te_ids {X : List Tm} {k : Nat} (h : k < X.length) : (X.map Tm.id).getD k 0 = X[k].id := by
  rw [ascD (by simpa using h)]; simp
theorem atAt_a {X : List Tm} {k : Nat} (h : ascAt (X.map Tm.id) k = false) : atAt X k = false := by unfold atAt; rw [h, Bool.false_and]
theorem atAt_p {X : List Tm} {k : Nat} {x : Tm} (hx : X.getD k tmD = x) (h : tmP x = false) : atAt X k = false := by unfold atAt; rw [hx, h, Bool.false_and, Bool.and_false]
theorem atAt_m {X : List Tm} {k : Nat} {x : Tm} {m : Int} (hx : X.getD k tmD = x) (hm : m ∈ x.met) (h : muAt X k m = false) : atAt X k = false := by
  unfold atAt
  have : x.met.all (muAt X k) = false := by rw [List.all_eq_false]; exact ⟨m, hm, by simp [h]⟩
  rw [hx, this, Bool.and_false, Bool.and_false]
theorem atAt_y {X : List Tm} {k : Nat} {x : Tm} (hx : X.getD k tmD = x) (h1 : ascAt (X.map Tm.id) k = true) (h2 : tmP x = true) (h3 : x.met.all (muAt X k) = true) : atAt X k = true := by unfold atAt; rw [hx, h1, h2, h3]; rfl
theorem te_no {X : List Tm} {k : Nat} (hk : k < X.length) (h : atAt X k = false) : atB X = false := by
  unfold atB
  have : (List.range X.length).all (atAt X) = false := by rw [List.all_eq_false]; exact ⟨k, List.mem_range.2 hk, by simp [h]⟩
  rw [this, Bool.false_and]
theorem te_snoc {X : List Tm} {k : Nat} (h : (List.range k).all (atAt X) = true) (h2 : atAt X k = true) : (List.range (k + 1)).all (atAt X) = true := by
  rw [List.range_succ, List.all_append, h, List.all_cons, h2]
  rfl
theorem te_all {X : List Tm} {n : Nat} (hl : X.length = n) (h : (List.range n).all (atAt X) = true) : atB X = decide (n ≤ 10) := by
  unfold atB
  rw [hl, h, Bool.true_and]
theorem te_big {X : List Tm} (h : 10 < X.length) : atB X = false := by
  unfold atB
  rw [decide_eq_false (show ¬ X.length ≤ 10 by omega), Bool.and_false]
theorem te_asc {X : List Tm} (h : atB X = true) : ascB (X.map Tm.id) = true := by
  unfold atB at h
  rw [Bool.and_eq_true] at h
  unfold ascB
  rw [List.all_eq_true]
  intro k hk
  have hk' : k < X.length := by simpa using List.mem_range.1 hk
  have := List.all_eq_true.1 h.1 k (List.mem_range.2 hk')
  unfold atAt at this
  rw [Bool.and_eq_true] at this
  exact this.1
theorem te_len {X : List Tm} (h : atB X = true) : X.length ≤ 10 := by
  unfold atB at h
  rw [Bool.and_eq_true] at h
  exact of_decide_eq_true h.2
theorem te_at {X : List Tm} (h : atB X = true) {k : Nat} (hk : k < X.length) : tmP X[k] = true ∧ ∀ m ∈ X[k].met, muAt X k m = true := by
  unfold atB at h
  rw [Bool.and_eq_true] at h
  have := List.all_eq_true.1 h.1 k (List.mem_range.2 hk)
  unfold atAt at this
  rw [te_gd hk, Bool.and_eq_true, Bool.and_eq_true] at this
  exact ⟨this.2.1, List.all_eq_true.1 this.2.2⟩
theorem te_noasc {X : List Tm} (h : ascB (X.map Tm.id) = false) : atB X = false := by
  cases hb : atB X with
  | false => rfl
  | true => rw [te_asc hb] at h; cases h
theorem te_noteam {X : List Tm} {k : Nat} (hk : k < X.length) (h : tmF X[k] = false) : atB X = false := by
  cases hb : atB X with
  | false => rfl
  | true =>
    exfalso
    have h1 := te_at hb hk
    rw [tmF_eq, h1.1, Bool.true_and] at h
    have hc : X[k].id ∈ X[k].met := by simpa using h
    have h2 := h1.2 _ hc
    rw [mu_self (te_asc hb) hk] at h2
    cases h2
theorem te_self {X : List Tm} (h : (X.take X.length).all tmF = true) : ∀ x ∈ X, x.id ∉ x.met := by
  intro x hx hm
  rw [List.take_length] at h
  have := List.all_eq_true.1 h x hx
  rw [tmF_eq] at this
  simp at this
  exact this.2 hm
theorem te_yes {X : List Tm} {b : Bool} (h1 : ascB (X.map Tm.id) = true) (h2 : (X.take X.length).all tmF = true) (h3 : X.length ≤ 10) (hb : b = true ↔ ∀ e, (gE (evs X) e).isSome = false) : b = atB X := by
  have hs := te_self h2
  rw [mu_iff h1 hs] at hb
  rw [List.take_length] at h2
  rw [Bool.eq_iff_iff, hb]
  constructor
  · intro h
    unfold atB
    rw [Bool.and_eq_true]
    refine ⟨List.all_eq_true.2 fun k hk => ?_, decide_eq_true h3⟩
    have hk' := List.mem_range.1 hk
    refine atAt_y (te_gd hk') (List.all_eq_true.1 (by unfold ascB at h1; exact h1) k (by simpa using hk')) ?_ (List.all_eq_true.2 (h k hk'))
    have := List.all_eq_true.1 h2 _ (List.getElem_mem hk')
    rw [tmF_eq, Bool.and_eq_true] at this
    exact this.1
  · intro h i hi m hm
    exact (te_at h hi).2 m hm
theorem te_allsnoc {X : List Tm} {k : Nat} (h : (X.take k).all tmF = true) (hk : k < X.length) (h2 : tmF X[k] = true) : (X.take (k + 1)).all tmF = true := by
  rw [List.take_succ_eq_append_getElem hk, List.all_append, h, List.all_cons, h2]
  rfl
theorem evs_len : ∀ {X : List Tm}, (∀ x ∈ X, x.met.length ≤ 1048576) → (evs X).length ≤ X.length * 1048576
  | [], _ => by simp [evs]
  | x :: xs, h => by
    have e : evs (x :: xs) = evT x ++ evs xs := rfl
    have h1 := h x (by simp)
    have h2 := evs_len (X := xs) (fun y hy => h y (List.mem_cons_of_mem _ hy))
    have h3 : (evT x).length = x.met.length := by unfold evT; simp
    rw [e, List.length_append, List.length_cons, h3, Nat.add_mul]
    omega
theorem evs_len' {X : List Tm} {x : Tm} {k m n : Nat} (hl : X.length = n) (hk : k ≤ n) (hn : n ≤ 1048576) (hm : m ≤ 1048576) (h : ∀ x ∈ X, x.met.length ≤ 1048576) : (evs (X.take k) ++ (evT x).take m).length ≤ 4000000000000 := by
  have h1 := evs_len (X := X.take k) (fun x hx => h x (List.mem_of_mem_take hx))
  rw [List.length_take, hl, Nat.min_eq_left hk] at h1
  rw [List.length_append, List.length_take]
  omega
theorem tmP_1 {x : Tm} (h : inr x.club 1 99 = false) : tmP x = false := by unfold tmP; simp [h]
theorem tmP_2 {x : Tm} (h : inr x.wins 0 x.met.length = false) : tmP x = false := by unfold tmP; simp [h]
theorem tmP_3 {x : Tm} (h : inr x.firsts 0 x.met.length = false) : tmP x = false := by unfold tmP; simp [h]
theorem tmP_4 {x : Tm} (h : inr x.pts 0 100000 = false) : tmP x = false := by unfold tmP; simp [h]
theorem tmP_5 {x : Tm} (h : ¬ x.met.length ≤ 20) : tmP x = false := by unfold tmP; rw [decide_eq_false h]; simp
theorem tmP_6 {x : Tm} (h1 : inr x.club 1 99 = true) (h2 : inr x.wins 0 x.met.length = true) (h3 : inr x.firsts 0 x.met.length = true) (h4 : inr x.pts 0 100000 = true) (h5 : x.met.length ≤ 20) : tmP x = true := by unfold tmP; rw [h1, h2, h3, h4, decide_eq_true h5]; rfl
theorem mu_none {X : List Tm} {i : Nat} {m : Int} (h : fndO X m = none) : muAt X i m = false := by unfold muAt; rw [h]
theorem mu_same {X : List Tm} {i : Nat} {m : Int} (h : fndO X m = some (i : Int)) : muAt X i m = false := by unfold muAt; rw [h]; simp
theorem mu_some {X : List Tm} {i j : Nat} {m : Int} {x : Tm} (h : fndO X m = some (j : Int)) (hne : ¬ j = i) (hj : j < X.length) (hx : X.getD i tmD = x) : muAt X i m = (X[j].met.count x.id == x.met.count X[j].id) := by
  unfold muAt; rw [h]
  simp only [Int.toNat_natCast, te_gd hj, hx]
  rw [decide_eq_true (show (j : Int) ≠ (i : Int) by omega), Bool.true_and]
theorem mu_cast {a b : Nat} : (a == b) = decide ((a : Int) = (b : Int)) := by
  by_cases h : a = b
  · subst h; simp
  · rw [decide_eq_false (by omega)]; simpa using h
theorem mu_snoc {X : List Tm} {i k : Nat} {l : List Int} (h : (l.take k).all (muAt X i) = true) (hk : k < l.length) (h2 : muAt X i l[k] = true) : (l.take (k + 1)).all (muAt X i) = true := by
  rw [List.take_succ_eq_append_getElem hk, List.all_append, h, List.all_cons, h2]
  rfl
theorem mu_end {X : List Tm} {i n : Nat} {l : List Int} (hl : l.length = n) (h : (l.take n).all (muAt X i) = true) : l.all (muAt X i) = true := by
  rwa [List.take_of_length_le (by omega)] at h
end Go.Proofs.Ythkigilegnjglaa

/- Boxes of six cells (teams that a call made); worlds that only grew (Grw). No conditions. -/
namespace Go.Proofs.Ythkigilegnjglaa
open Go.ChangeShapes Go.WideShapes Go.ChangeAt Go.RowKit
theorem drew_cell (W : World) (p : Addr) : W.drew.cell? p = W.cell? p := rfl
theorem drew_heap (W : World) (b : Nat) : W.drew.heap[b]? = W.heap[b]? := rfl
section
variable {w w' : World} {g : Nat} {t : TypeId} {a b c d e f x y z u v s : Value}
theorem Bx.c6 (h : Bx w g t #[a, b, c, d, e, f]) (hb : Below w.heap.size w w') : w'.cell? ⟨g, 0, none⟩ = some a ∧ w'.cell? ⟨g, 1, none⟩ = some b ∧ w'.cell? ⟨g, 2, none⟩ = some c ∧ w'.cell? ⟨g, 3, none⟩ = some d ∧ w'.cell? ⟨g, 4, none⟩ = some e ∧ w'.cell? ⟨g, 5, none⟩ = some f :=
  ⟨(h.new hb).at_ (k := 0) rfl, (h.new hb).at_ (k := 1) rfl, (h.new hb).at_ (k := 2) rfl, (h.new hb).at_ (k := 3) rfl, (h.new hb).at_ (k := 4) rfl, (h.new hb).at_ (k := 5) rfl⟩
theorem Bx.c2 (h : Bx w g t #[a, b]) (hb : Below w.heap.size w w') : w'.cell? ⟨g, 0, none⟩ = some a ∧ w'.cell? ⟨g, 1, none⟩ = some b :=
  ⟨(h.new hb).at_ (k := 0) rfl, (h.new hb).at_ (k := 1) rfl⟩
theorem box6 (w : World) (t : TypeId) (a b c d e f : Value) : ∃ W1 : World, w.alloc (Obj.cells #[a, b, c, d, e, f] t) = W1 ∧ Bx W1 w.heap.size t #[a, b, c, d, e, f] ∧ Below w.heap.size w W1 ∧ W1.heap.size = w.heap.size + 1 :=
  ⟨_, rfl, Bx.made w t _, alloc_m w _, by simp⟩
theorem box2T (w : World) (t : TypeId) (a b : Value) : ∃ W1 : World, w.alloc (Obj.cells #[a, b] t) = W1 ∧ Bx W1 w.heap.size t #[a, b] ∧ Below w.heap.size w W1 ∧ W1.heap.size = w.heap.size + 1 :=
  ⟨_, rfl, Bx.made w t _, alloc_m w _, by simp⟩
abbrev set6 (w : World) (g : Nat) (x y z u v s : Value) : World := (((((w.setCell ⟨g, 0, none⟩ x).setCell ⟨g, 1, none⟩ y).setCell ⟨g, 2, none⟩ z).setCell ⟨g, 3, none⟩ u).setCell ⟨g, 4, none⟩ v).setCell ⟨g, 5, none⟩ s
theorem Bx.sets6 (h : Bx w g t #[a, b, c, d, e, f]) (x y z u v s : Value) : Bx (set6 w g x y z u v s) g t #[x, y, z, u, v, s] := (((((h.set 0 x).set 1 y).set 2 z).set 3 u).set 4 v).set 5 s
theorem Bx.far6 {g' : Nat} {cs : Array Value} (h : Bx w g t cs) (hp : g ≠ g') (x y z u v s : Value) : Bx (set6 w g' x y z u v s) g t cs := (((((h.far (p := ⟨g', 0, none⟩) hp x).far (p := ⟨g', 1, none⟩) hp y).far (p := ⟨g', 2, none⟩) hp z).far (p := ⟨g', 3, none⟩) hp u).far (p := ⟨g', 4, none⟩) hp v).far (p := ⟨g', 5, none⟩) hp s
theorem below_sets6 {B : Nat} {w0 : World} (h : Below B w0 w) (hg : B ≤ g) : Below B w0 (set6 w g x y z u v s) := (((((h.setCell hg x).setCell hg y).setCell hg z).setCell hg u).setCell hg v).setCell hg s
theorem set6_cell {p : Addr} (h : p.block ≠ g) : (set6 w g x y z u v s).cell? p = w.cell? p := World.cell?_of_block (by
  unfold set6
  repeat rw [Below.heap_setCell _ _ _ _ h])
theorem set6_heap {b : Nat} (h : b ≠ g) : (set6 w g x y z u v s).heap[b]? = w.heap[b]? := by
  unfold set6
  repeat rw [Below.heap_setCell _ _ _ _ h]
theorem set6_celld {p : Addr} (h : p.block ≠ g) : (set6 w g x y z u v s).drew.cell? p = w.cell? p := by
  rw [drew_cell, set6_cell h]
theorem set66_celld {g' : Nat} {x' y' z' u' v' s' : Value} {p : Addr} (h : p.block ≠ g) (h' : p.block ≠ g') : (set6 (set6 w g x y z u v s) g' x' y' z' u' v' s').drew.cell? p = w.cell? p := by
  rw [set6_celld h', set6_cell h]
theorem set6_heapd {b : Nat} (h : b ≠ g) : (set6 w g x y z u v s).drew.heap[b]? = w.heap[b]? := by
  rw [drew_heap, set6_heap h]
theorem set66_heapd {g' : Nat} {x' y' z' u' v' s' : Value} {b : Nat} (h : b ≠ g) (h' : b ≠ g') : (set6 (set6 w g x y z u v s) g' x' y' z' u' v' s').drew.heap[b]? = w.heap[b]? := by
  rw [set6_heapd h', set6_heap h]
theorem Bx.sets2 (h : Bx w g t #[a, b]) (x y : Value) : Bx ((w.setCell ⟨g, 0, none⟩ x).setCell ⟨g, 1, none⟩ y) g t #[x, y] := (h.set 0 x).set 1 y
theorem below_sets2 {B : Nat} {w0 : World} (h : Below B w0 w) (hg : B ≤ g) : Below B w0 ((w.setCell ⟨g, 0, none⟩ x).setCell ⟨g, 1, none⟩ y) := (h.setCell hg x).setCell hg y
end
/-- The world has drawn and grown, nothing else. -/
def Grw (w u : World) : Prop := ∃ (q : Nat) (os : Array Obj), u = Sort.grow (w.drewN q) os
section
variable {w w' u v : World}
theorem Grw.refl : Grw w w := ⟨0, #[], by rw [Sort.grow_empty]; rfl⟩
theorem Grw.drew (h : Grw w u) : Grw w u.drew := by
  obtain ⟨q, os, rfl⟩ := h
  exact ⟨q + 1, os, rfl⟩
theorem Grw.alloc (h : Grw w u) (o : Obj) : Grw w (u.alloc o) := by
  obtain ⟨q, os, rfl⟩ := h
  exact ⟨q, os ++ #[o], by rw [Sort.alloc_eq_grow, Sort.grow_grow]⟩
theorem Grw.below (h : Grw w u) : Below w.heap.size w u := by
  obtain ⟨q, os, rfl⟩ := h
  refine ⟨rfl, rfl, rfl, ?_, fun k hk => ?_⟩
  · show w.heap.size ≤ (w.heap ++ os).size
    rw [Array.size_append]; omega
  · show (w.heap ++ os)[k]? = _
    rw [Array.getElem?_append_left hk]
theorem Grw.trans (h : Grw w u) (k : Grw u v) : Grw w v := by
  obtain ⟨q, os, rfl⟩ := h
  obtain ⟨q', os', rfl⟩ := k
  refine ⟨q + q', os ++ os', ?_⟩
  show Sort.grow (Sort.grow ((w.drewN q).drewN q') os) os' = _
  rw [Sort.grow_grow]
  show _ = Sort.grow (w.drewN (q + q')) _
  unfold World.drewN Sort.grow
  simp [Nat.add_assoc]
end
end Go.Proofs.Ythkigilegnjglaa
