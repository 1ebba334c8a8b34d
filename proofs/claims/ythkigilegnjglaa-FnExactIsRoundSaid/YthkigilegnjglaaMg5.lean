/- Mathematics of ascending Ids: ascB. No conditions. -/
import Derived.Test.YthkigilegnjglaaMg2
import Derived.Test.YthkigilegnjglaaMg4
namespace Go.Proofs.Ythkigilegnjglaa
open Go.ChangeShapes Go.WideShapes Go.ChangeAt Go.RowKit
/-- The number at k is from 1 to 99 and greater than the one before. -/
def ascAt (S : List Int) (k : Nat) : Bool := inr (S.getD k 0) 1 99 && ((k == 0) || decide (S.getD (k - 1) 0 < S.getD k 0))
def ascB (S : List Int) : Bool := (List.range S.length).all (ascAt S)
theorem ascD {S : List Int} {k : Nat} (h : k < S.length) : S.getD k 0 = S[k] := by simp [List.getD, List.getElem?_eq_getElem h]
theorem asc_no {S : List Int} {k : Nat} (hk : k < S.length) (h : ascAt S k = false) : ascB S = false := by
  unfold ascB
  rw [List.all_eq_false]
  exact ⟨k, List.mem_range.2 hk, by simp [h]⟩
theorem asc_0 {S : List Int} {k : Nat} {x : Int} (hx : S.getD k 0 = x) (h : inr x 1 99 = false) : ascAt S k = false := by
  unfold ascAt
  rw [hx, h, Bool.false_and]
theorem asc_1 {S : List Int} {x : Int} (hx : S.getD 0 0 = x) (h : inr x 1 99 = true) : ascAt S 0 = true := by
  unfold ascAt
  rw [hx, h]
  rfl
theorem asc_2 {S : List Int} {k j : Nat} {x y : Int} (hx : S.getD k 0 = x) (e : k = j + 1) (hy : S.getD j 0 = y) (h : inr x 1 99 = true) : ascAt S k = decide (y < x) := by
  unfold ascAt
  rw [hx, show k - 1 = j by omega, hy, h, Bool.true_and, show (k == 0) = false by simp [e], Bool.false_or]
theorem asc_snoc {S : List Int} {k : Nat} (h : (List.range k).all (ascAt S) = true) (h2 : ascAt S k = true) : (List.range (k + 1)).all (ascAt S) = true := by
  rw [List.range_succ, List.all_append, h, List.all_cons, h2]
  rfl
theorem asc_end {S : List Int} {n : Nat} (hl : S.length = n) (h : (List.range n).all (ascAt S) = true) : ascB S = true := by
  unfold ascB
  rw [hl]; exact h
theorem asc_lt {S : List Int} (h : ascB S = true) : ∀ (j k : Nat) (hk : k < S.length) (hj : j < k), S[j] < S[k] := by
  unfold ascB at h
  have hall : ∀ k, k < S.length → ascAt S k = true := fun k hk => List.all_eq_true.1 h k (List.mem_range.2 hk)
  intro j k
  induction k with
  | zero => intro _ hj; omega
  | succ k ih =>
    intro hk hj
    have h1 := hall (k + 1) hk
    unfold ascAt at h1
    simp only [Bool.and_eq_true, Bool.or_eq_true, decide_eq_true_eq] at h1
    have h2 : S.getD k 0 < S.getD (k + 1) 0 := by
      rcases h1.2 with e | e
      · simp at e
      · simpa using e
    rw [ascD hk, ascD (show k < S.length by omega)] at h2
    rcases Nat.lt_or_ge j k with h3 | h3
    · have := ih (by omega) h3; omega
    · have : j = k := by omega
      subst this; exact h2
theorem asc_in {S : List Int} (h : ascB S = true) {k : Nat} (hk : k < S.length) : 1 ≤ S[k] ∧ S[k] ≤ 99 := by
  have h1 : ascAt S k = true := List.all_eq_true.1 h k (List.mem_range.2 hk)
  unfold ascAt at h1
  rw [Bool.and_eq_true, ascD hk] at h1
  have := h1.1
  unfold inr at this
  simp at this
  exact this
theorem asc_inj {S : List Int} (h : ascB S = true) {j k : Nat} (hj : j < S.length) (hk : k < S.length) (e : S[j] = S[k]) : j = k := by
  rcases Nat.lt_trichotomy j k with q | q | q
  · have := asc_lt h j k hk q; omega
  · exact q
  · have := asc_lt h k j hj q; omega
end Go.Proofs.Ythkigilegnjglaa

/- Mathematics of the map in which meetings wait (gE): the events E so far, what a pair has. No conditions. -/
namespace Go.Proofs.Ythkigilegnjglaa
open Go.ChangeShapes Go.WideShapes Go.ChangeAt Go.RowKit
def swP (e : Int × Int) : Int × Int := (e.2, e.1)
theorem swP_swP (e : Int × Int) : swP (swP e) = e := rfl
/-- How many more meetings of e than of the other way round. -/
def dE (E : List (Int × Int)) (e : Int × Int) : Int := (E.count e : Nat) - (E.count (swP e) : Nat)
theorem dE_sw (E : List (Int × Int)) (e : Int × Int) : dE E (swP e) = - dE E e := by unfold dE; rw [swP_swP]; omega
/-- What waits. -/
def gE (E : List (Int × Int)) (e : Int × Int) : Option Int := if 0 < dE E e then some (dE E e) else none
theorem gE_getD (E : List (Int × Int)) (e : Int × Int) : (gE E e).getD 0 = if 0 < dE E e then dE E e else 0 := by unfold gE; split <;> rfl
theorem gE_nil : gE [] = fun _ => none := by funext e; unfold gE dE; simp
theorem count_snoc (E : List (Int × Int)) (e x : Int × Int) : (E ++ [e]).count x = E.count x + if e = x then 1 else 0 := by
  rw [List.count_append, List.count_singleton]
  by_cases h : e = x <;> simp [h]
theorem dE_same {E : List (Int × Int)} {e : Int × Int} (h : e.1 ≠ e.2) : dE (E ++ [e]) e = dE E e + 1 := by
  have h2 : e ≠ swP e := fun q => h (congrArg Prod.fst q)
  unfold dE
  rw [count_snoc, count_snoc, if_pos rfl, if_neg h2]
  omega
theorem dE_swap {E : List (Int × Int)} {e : Int × Int} (h : e.1 ≠ e.2) : dE (E ++ [e]) (swP e) = dE E (swP e) - 1 := by
  rw [dE_sw, dE_same h, dE_sw]; omega
theorem dE_other {E : List (Int × Int)} {e x : Int × Int} (h1 : x ≠ e) (h2 : x ≠ swP e) : dE (E ++ [e]) x = dE E x := by
  have h3 : e ≠ swP x := fun q => h2 (by rw [q, swP_swP])
  unfold dE
  rw [count_snoc, count_snoc, if_neg (fun q => h1 q.symm), if_neg h3]
  omega
theorem gE_wait {E : List (Int × Int)} {e : Int × Int} (h : e.1 ≠ e.2) (h0 : (gE E (swP e)).getD 0 = 0) : gE (E ++ [e]) = ppF (gE E) e ((gE E e).getD 0 + 1) := by
  rw [gE_getD] at h0
  have hd : 0 ≤ dE E e := by rw [dE_sw] at h0; split at h0 <;> omega
  funext x
  unfold ppF
  by_cases e1 : x = e
  · subst e1
    rw [if_pos rfl, gE_getD]
    unfold gE
    rw [dE_same h, if_pos (by omega)]
    split <;> (congr 1 <;> omega)
  · rw [if_neg e1]
    by_cases e2 : x = swP e
    · subst e2
      unfold gE
      rw [dE_swap h, if_neg (by rw [dE_sw]; omega), if_neg (by rw [dE_sw]; omega)]
    · unfold gE
      rw [dE_other e1 e2]
theorem gE_one {E : List (Int × Int)} {e : Int × Int} (h : e.1 ≠ e.2) (h0 : (gE E (swP e)).getD 0 = 1) : gE (E ++ [e]) = pdF (gE E) (swP e) := by
  rw [gE_getD] at h0
  have hd : dE E (swP e) = 1 := by split at h0 <;> omega
  have hd2 : dE E e = -1 := by rw [dE_sw] at hd; omega
  funext x
  unfold pdF
  by_cases e2 : x = swP e
  · subst e2
    rw [if_pos rfl]
    unfold gE
    rw [dE_swap h, if_neg (by omega)]
  · rw [if_neg e2]
    by_cases e1 : x = e
    · subst e1
      unfold gE
      rw [dE_same h, if_neg (by omega), if_neg (by omega)]
    · unfold gE
      rw [dE_other e1 e2]
theorem gE_more {E : List (Int × Int)} {e : Int × Int} (h : e.1 ≠ e.2) (h0 : (gE E (swP e)).getD 0 ≠ 0) (h1 : (gE E (swP e)).getD 0 ≠ 1) : gE (E ++ [e]) = ppF (gE E) (swP e) ((gE E (swP e)).getD 0 - 1) := by
  rw [gE_getD] at h0 h1
  have hd : 1 < dE E (swP e) := by split at h0 <;> (split at h1 <;> omega)
  have hd2 : dE E e < -1 := by rw [dE_sw] at hd; omega
  funext x
  unfold ppF
  by_cases e2 : x = swP e
  · subst e2
    rw [if_pos rfl, gE_getD, if_pos (by omega)]
    unfold gE
    rw [dE_swap h, if_pos (by omega)]
  · rw [if_neg e2]
    by_cases e1 : x = e
    · subst e1
      unfold gE
      rw [dE_same h, if_neg (by omega), if_neg (by omega)]
    · unfold gE
      rw [dE_other e1 e2]
theorem gE_range (E : List (Int × Int)) (e : Int × Int) : 0 ≤ (gE E e).getD 0 ∧ (gE E e).getD 0 ≤ E.length := by
  rw [gE_getD]
  have := List.count_le_length (a := e) (l := E)
  unfold dE
  split <;> omega
/-- Nothing waits at the end: each pair has as many meetings as the other way round. -/
theorem gE_empty (E : List (Int × Int)) : (∀ e, (gE E e).isSome = false) ↔ ∀ e, E.count e = E.count (swP e) := by
  constructor
  · intro h e
    have h1 := h e
    have h2 := h (swP e)
    unfold gE at h1 h2
    rw [dE_sw] at h2
    have e1 : ¬ 0 < dE E e := fun q => by rw [if_pos q] at h1; cases h1
    have e2 : ¬ 0 < - dE E e := fun q => by rw [if_pos q] at h2; cases h2
    unfold dE at e1 e2
    omega
  · intro h e
    unfold gE dE
    rw [h e, if_neg (by omega)]
    rfl
end Go.Proofs.Ythkigilegnjglaa

/- Contracts of the laws' own helpers over Graph: toGraph, eqGraph, markGraph, heldGraph, szGraph. For every graph whose slices have at most 2^40 elements; no other condition. -/
namespace Go.Proofs.Ythkigilegnjglaa
open Go.ChangeShapes Go.WideShapes Go.ChangeAt Go.RowKit
/-- Block g is just the cells cs. -/
def Bx (w : World) (g : Nat) (t : TypeId) (cs : Array Value) : Prop := w.heap[g]? = some (.cells cs t (0, 0))
section
variable {w w' : World} {g : Nat} {t : TypeId} {cs : Array Value}
theorem Bx.lt (h : Bx w g t cs) : g < w.heap.size := (Array.getElem?_eq_some_iff.1 h).1
theorem Bx.made (w : World) (t : TypeId) (cs : Array Value) : Bx (w.alloc (.cells cs t)) w.heap.size t cs := heap_alloc_new w _
theorem Bx.new (h : Bx w g t cs) (hb : Below w.heap.size w w') : Bx w' g t cs := (hb.block g h.lt).trans h
theorem Bx.out {lo hi : Nat} (h : Bx w g t cs) (o : Out lo hi w w') (hd : g < lo ∨ hi ≤ g) : Bx w' g t cs := (o.block g h.lt hd).trans h
theorem Bx.two {a b : Value} (h : Bx w g t #[a, b]) : w.cell? ⟨g, 0, none⟩ = some a ∧ w.cell? ⟨g, 1, none⟩ = some b :=
  ⟨by rw [cell_of_row w g 0 _ t (0, 0) h]; rfl, by rw [cell_of_row w g 1 _ t (0, 0) h]; rfl⟩
theorem trans_new {a b c : World} (h : Below a.heap.size a b) (k : Below b.heap.size b c) : Below a.heap.size a c := h.trans (k.mono h.size)
theorem arg_rd {W a b : World} {A : Option Addr} {X : List (List Int)} (R : RdSS W W.heap.size A X) (B : Below W.heap.size W a) (h : Below a.heap.size a b) : RdSS b b.heap.size A X :=
  (R.below (B.trans (h.mono B.size))).more (Nat.le_trans B.size h.size)
end
theorem bcell {W w1 : World} (hb : Below W.heap.size W w1) : (∀ b o, b < W.heap.size → w1.cell? ⟨b, o, none⟩ = W.cell? ⟨b, o, none⟩) ∧ (∀ b o, b < W.heap.size → w1.frozen? ⟨b, o, none⟩ = W.frozen? ⟨b, o, none⟩) :=
  ⟨fun b o h => hb.cell (p := ⟨b, o, none⟩) h, fun b o h => hb.frozen (p := ⟨b, o, none⟩) h⟩
theorem OwnSS.setFar {w : World} {lo hi : Nat} {v : Value} {X : List (List Int)} (h : OwnSS w lo hi v X) {p : Addr} (hp : p.block < lo ∨ hi ≤ p.block) (u : Value) : OwnSS (w.setCell p u) lo hi v X :=
  Owns.keep h SSR_frames fun b h1 h2 _ => Below.heap_setCell w p u b (by omega)
/-- A graph whose slices are new is returned. -/
def FreshG (N : Int) (X : List (List Int)) (w : World) (e : Ending) (w' : World) : Prop :=
  ∃ v, e = .returned (.agg #[.int .i64 N, v]) ∧ OwnSS w' w.heap.size w'.heap.size v X ∧ Below w.heap.size w w'
def MarkedG (q : Int) (lo hi : Nat) (v : Value) (X : List (List Int)) (w : World) (e : Ending) (w' : World) : Prop :=
  e = .returned (.int .i64 q) ∧ OwnSS w' lo hi v X ∧ Out lo hi w w'
/-- What is left of q when a slice's elements are counted off. -/
def szd (q : Int) (n : Nat) : Int := if q - (n : Int) < 0 then -1 else q - (n : Int)
theorem szIntS_any {w : World} {A : Option Addr} {n c : Nat} {q : Int} (hn : n ≤ 9223372036854775807) (h0 : 0 ≤ q) (hq : q ≤ 1000000000000000) :
    Calls Try.prog 61 #[.slice A n c, .int .i64 q] w (fun e w' => e = .returned (.int .i64 (szd q n)) ∧ w = w') := by
  by_cases h : q - (n : Int) < 0
  · have HS : Hid (szd q n = -1) := if_pos h
    go_enter Try.func61, Try.ntmps61
    go_wp2
    go_ret
    exact ⟨ret_i HS.out.symm, rfl⟩
  · have HS : Hid (szd q n = q - (n : Int)) := if_neg h
    have h' : (n : Int) ≤ q := by omega
    clear h
    go_enter Try.func61, Try.ntmps61
    go_wp2
    go_ret
    exact ⟨ret_i HS.out.symm, rfl⟩
/-- Either all is counted, or there is too much. -/
def SzP (q : Int) (X : List (List Int)) (w : World) (e : Ending) (w' : World) : Prop :=
  ∃ r : Int, e = .returned (.int .i64 r) ∧ Below w.heap.size w w' ∧ (r = -1 ∨ 0 ≤ r ∧ r + (X.length : Int) + (psum X X.length : Int) ≤ q)
set_option maxHeartbeats 1600000 in
theorem szIntSS_any {w : World} {A : Option Addr} {n c : Nat} {q : Int} {X : List (List Int)} (hl : Hid (X.length = n)) (hn : n ≤ 9223372036854775807) (h0 : 0 ≤ q) (hq : q ≤ 1000000000000000) (hr : RdSS w w.heap.size A X) :
    Calls Try.prog 15 #[.slice A n c, .int .i64 q] w (SzP q X w) := by
  by_cases h : q - (n : Int) < 0
  · clear hr
    go_enter Try.func15, Try.ntmps15
    go_wp2
    go_ret
    exact ⟨-1, rfl, Below.refl _ _, .inl rfl⟩
  · have h' : (n : Int) ≤ q := by omega
    clear h
    go_enter Try.func15, Try.ntmps15
    go_wp2
    go_loop [1, 5] (fun m i => ∃ (k : Nat) (r : Int), k ≤ n ∧ i = .int .i64 k ∧ m = .int .i64 r ∧ 0 ≤ r ∧ r + (n : Int) + (psum X k : Int) = q) (fun _ i => n - (intOf i).toNat)
    case atStart => exact ⟨0, _, Nat.zero_le _, rfl, rfl, by omega, by rw [psum_zero]; omega⟩
    case round =>
      obtain ⟨k, r, hk, rfl, rfl, hr0, hrq⟩ := hrel
      have HQ := Lib.hid hrq
      have hrb : r ≤ q := by omega
      clear hrq
      by_cases hlt : k < n
      · have hkz : k < X.length := by rw [hl.out]; exact hlt
        obtain ⟨ad, Aj, cj, rfl, hab, hc, hcl, hcm, hrd⟩ := hr.at_ hkz
        have hps := Lib.hid (psum_succ X k hkz)
        have hxl : X[k].length ≤ 9223372036854775807 := by unfold maxLen at hcm; omega
        obtain ⟨x, hx⟩ : ∃ x, x = X[k] := ⟨_, rfl⟩
        rw [← hx] at hc hps hxl
        clear hx hrd hcl hcm hr
        by_cases hneg : r - (x.length : Int) < 0
        · have HS := Lib.hid (show szd r x.length = -1 from if_pos hneg)
          have C := szIntS_any (w := w) (A := Aj) (c := cj) hxl hr0 (by omega : r ≤ 1000000000000000)
          rw [HS.out] at C
          have HC := Lib.hid C
          clear C hneg
          go_wp2_with (go_at_call 61; refine HC.out.mono ?_; rintro e w1 ⟨rfl, rfl⟩)
          go_ret
          exact ⟨-1, rfl, Below.refl _ _, .inl rfl⟩
        · have HS := Lib.hid (show szd r x.length = r - (x.length : Int) from if_neg hneg)
          have C := szIntS_any (w := w) (A := Aj) (c := cj) hxl hr0 (by omega : r ≤ 1000000000000000)
          rw [HS.out] at C
          have HC := Lib.hid C
          have hneg' : (x.length : Int) ≤ r := by omega
          clear C hneg
          go_wp2_with (go_at_call 61; refine HC.out.mono ?_; rintro e w1 ⟨rfl, rfl⟩)
          go_round
          case rel => exact ⟨k + 1, _, by omega, by go_num, rfl, by omega, by have := HQ.out; rw [hps.out]; omega⟩
          case measure => simp [intOf]; omega
      · have e : k = n := by omega
        subst e
        go_wp2
        go_ret
        exact ⟨r, rfl, Below.refl _ _, .inr ⟨hr0, by have := HQ.out; rw [hl.out]; omega⟩⟩
end Go.Proofs.Ythkigilegnjglaa
