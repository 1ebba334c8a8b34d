/- Contracts of the draws of formulas: l10Draw, l10Any, l10Letters, DrawValue, DrawJoin. Condition: the code's bytes lie in old memory. -/
import Derived.Test.YtignchefkihdaaaDoorMg4
import Derived.Test.YtignchefkihdaaaDoorMg3
import Derived.Test.YtignchefkihdaaaDoorMg6
import Derived.Test.YtignchefkihdaaaDoorMg1
import Derived.Test.YtignchefkihdaaaDoorMg2
namespace Go.Proofs.YtignchefkihdaaaDoor
open Go.ChangeShapes Go.WideShapes Go.ChangeAt Go.RowKit
set_option maxRecDepth 100000
def fmL : Nat → Nat
  | 0 => 1
  | d + 1 => 2 * fmL d + 1
theorem fmL_pos (d : Nat) : 1 ≤ fmL d := by cases d <;> simp [fmL]
/-- A row was drawn, not empty; its memory is new. -/
def DrewF (k B : Nat) (A : Option Addr) (n c : Nat) (w : World) (e : Ending) (w' : World) : Prop :=
  ∃ (zs : List Int) (v : Value), 1 ≤ zs.length ∧ zs.length ≤ k ∧ e = .returned v ∧ Row w' w.heap.size w'.heap.size 3 v (ivs zs) ∧ w.grownBy w' (some B) ∧ Cur w' B A n c
theorem fm_one {w w1 : World} {B k : Nat} {A : Option Addr} {n c : Nat} {x : Int} (hk : 1 ≤ k) (hg : w.grownBy w1 (some B)) (h : Cur w1 B A n c) :
    DrewF k B A n c w (.returned (.slice (some ⟨w1.heap.size, 0, none⟩) 1 1)) (w1.alloc (Obj.cells #[Value.int .i64 x] 3)) :=
  ⟨[x], _, by simp, by simpa using hk, rfl, (Row.made (w := w1) w.heap.size #[Value.int .i64 x] 1 3 hg.size rfl (by decide)).wide (Nat.le_refl _) (by simp), only_then hg ((alloc_new w1 _).mono hg.size), h.below (alloc_new w1 _)⟩
theorem only_Out {w w' : World} {B : Nat} (h : w.grownBy w' (some B)) : Out B (B + 1) w w' := Out.of_only h
set_option maxHeartbeats 8000000 in
theorem draw10_any : ∀ (d : Nat), d ≤ 3 → fmL d ≤ 1000 → ∀ {w : World} {B : Nat} {A : Option Addr} {n c : Nat}, Cur w B A n c →
    Calls Tryd.prog 31 #[.pointer (some ⟨B, 0, none⟩), .int .i64 (d : Int)] w (DrewF (fmL d) B A n c w) := by
  intro d
  obtain ⟨ti, hti, hz0, hz1, hz2⟩ := info_parts IntS_info
  induction d with
  | zero =>
    intro hd3 hd w B A n c h
    have hB := h.lt
    go_enter Tryd.func31, Tryd.ntmps31
    go_wp2_with fail
    refine (below_any h 4 (by omega)).mono ?_
    rintro e w1 ⟨x, _, rfl, hg1, cur1⟩
    go_wp2_with fail
    go_ret
    exact fm_one (by decide) hg1 cur1
  | succ d ih =>
    intro hd3 hd w B A n c h
    have hB := h.lt
    have hdL : fmL d ≤ 499 := by simp only [fmL] at hd; omega
    have IH := Lib.hid (fun (w : World) (h : Cur w B A n c) => ih (by omega) (by omega) (w := w) h)
    have HL := Lib.hid (show fmL (d + 1) = 2 * fmL d + 1 from rfl)
    have HP := Lib.hid (fmL_pos d)
    have d0 : (((d + 1 : Nat) : Int) == 0) = false := by simp; omega
    have d1 : ((d + 1 : Nat) : Int) - 1 = (d : Int) := by omega
    clear ih
    go_enter Tryd.func31, Tryd.ntmps31
    go_wp2_with fail
    refine (once_any h 4 (by omega)).mono ?_
    rintro e w1 ⟨x, rfl, hg1, cur1⟩
    cases x with
    | true =>
      go_wp2_with fail
      refine (below_any cur1 4 (by omega)).mono ?_
      rintro e w2 ⟨x, _, rfl, hg2, cur2⟩
      go_wp2_with fail
      go_ret
      exact fm_one (by rw [HL.out]; omega) (only_trans hg1 hg2) cur2
    | false =>
      go_wp2_with fail
      refine (once_any cur1 4 (by omega)).mono ?_
      rintro e w2 ⟨x, rfl, hg2, cur2⟩
      have hgw2 := only_trans hg1 hg2
      have hz2' := hgw2.size
      cases x with
      | true =>
        go_wp2_with fail
        refine (IH.out w2 cur2).mono ?_
        rintro e w3 ⟨zs, v, hz1', hzl, rfl, hrow, hg3, cur3⟩
        have hgw3 := only_trans hgw2 hg3
        have hbl : Below w3.heap.size w3 (w3.alloc (Obj.cells #[Value.int .i64 (-1)] 3)) := alloc_new _ _
        have hrow4 := hrow.new hbl
        have hmade := Rd.made w3 #[Value.int .i64 (-1)] 3
        have L1 := Lib.hid (show (ivs zs).length + 1 ≤ maxLen ∧ ((ivs zs).length + 1) * 8 ≤ 140737488355328 by rw [ivs_len]; unfold maxLen; omega)
        have hz3 := hg3.size
        go_wp2_with (at_builtin; refine wpList_app rfl (.tmp 20) (.tmp 21) 25 rfl 3 ti _ 8 Tryd.underlying25 hti hz0 hz1 hz2 rfl rfl rfl hrow4 rfl hmade (by simp [Value.oneCell']) L1.out.1 L1.out.2 (by simp; omega) ?_; intro v1 w4 row4 ho4)
        go_ret
        have hb4 : Below w2.heap.size w3 w4 := (hbl.mono hz3).trans (ho4.below (Nat.le_refl _) (by simp; omega))
        exact ⟨zs ++ [-1], _, by simp, by rw [List.length_append, HL.out]; simp; omega, rfl, by rw [show ivs (zs ++ [-1]) = ivs zs ++ [Value.int .i64 (-1)] by simp [ivs]]; exact row4.wide hz2' (Nat.le_refl _), only_then hgw3 (hb4.mono hz2'), cur3.below' hb4 (by omega)⟩
      | false =>
        go_wp2_with fail
        refine (IH.out w2 cur2).mono ?_
        rintro e w3 ⟨zs, v, hz1', hzl, rfl, hrow, hg3, cur3⟩
        have hgw3 := only_trans hgw2 hg3
        have hz3 := hg3.size
        go_wp2_with fail
        refine (IH.out w3 cur3).mono ?_
        rintro e w4 ⟨ys, v4, hy1', hyl, rfl, hrow4, hg4, cur4⟩
        have hgw4 := only_trans hgw3 hg4
        have hz4 := hg4.size
        have hrowz := hrow.out (Out.of_only hg4) (.inr (by omega))
        obtain ⟨Ay, cy, rfl, hry, _, _⟩ := hrow4.rd (n := ys.length) (ivs_len ys)
        have L1 := Lib.hid (show (ivs zs).length + ys.length ≤ maxLen ∧ ((ivs zs).length + ys.length) * 8 ≤ 140737488355328 by rw [ivs_len]; unfold maxLen; omega)
        have HYL := Lib.hid (ivs_len ys)
        have HY1 : Hid (∀ u ∈ ivs ys, u.oneCell' = true) := Lib.hid int_one
        go_wp2_with (at_builtin; refine wpList_app rfl (.tmp 27) (.tmp 31) 25 rfl 3 ti _ 8 Tryd.underlying25 hti hz0 hz1 hz2 rfl rfl rfl hrowz HYL.out hry HY1.out L1.out.1 L1.out.2 (by omega) ?_; intro v5 w5 row5 ho5)
        have hb5 : Below w2.heap.size w4 w5 := ho5.below (Nat.le_refl _) (by omega)
        have cur5 := cur4.below' hb5 (by omega)
        have hgw5 := only_then hgw4 (hb5.mono hz2')
        have hz5 := hb5.size
        refine (below_any cur5 3 (by omega)).mono ?_
        rintro e w6 ⟨q, ⟨q0, q1⟩, rfl, hg6, cur6⟩
        have hgw6 := only_trans hgw5 hg6
        have hz6 := hg6.size
        have row6 := row5.out (Out.of_only hg6) (.inr (by omega))
        have hq := IntWalk.i64_in (-2 - q) (by omega)
        have hbl : Below w6.heap.size w6 (w6.alloc (Obj.cells #[Value.int .i64 (-2 - q)] 3)) := alloc_new _ _
        have row7 := row6.new hbl
        have hmade := Rd.made w6 #[Value.int .i64 (-2 - q)] 3
        have L2 := Lib.hid (show (ivs zs ++ ivs ys).length + 1 ≤ maxLen ∧ ((ivs zs ++ ivs ys).length + 1) * 8 ≤ 140737488355328 by rw [List.length_append, ivs_len, ivs_len]; unfold maxLen; omega)
        clear hrow hrowz hrow4 hry row5 row6
        go_wp2_with (at_builtin; refine wpList_app rfl (.tmp 32) (.tmp 36) 25 rfl 3 ti _ 8 Tryd.underlying25 hti hz0 hz1 hz2 rfl rfl rfl row7 rfl hmade (by simp [Value.oneCell']) L2.out.1 L2.out.2 (by simp; omega) ?_; intro v8 w8 row8 ho8)
        go_ret
        have hb8 : Below w2.heap.size w6 w8 := (hbl.mono (by omega)).trans (ho8.below (Nat.le_refl _) (by simp; omega))
        exact ⟨zs ++ ys ++ [-2 - q], _, by simp; omega, by rw [List.length_append, List.length_append, HL.out]; simp; omega, rfl, by rw [show ivs (zs ++ ys ++ [-2 - q]) = ivs zs ++ ivs ys ++ [Value.int .i64 (-2 - q)] by simp [ivs]]; exact row8.wide hz2' (Nat.le_refl _), only_then hgw6 (hb8.mono hz2'), cur6.below' hb8 (by omega)⟩
end Go.Proofs.YtignchefkihdaaaDoor

/- Words for a block of one cell, over any program. -/
namespace Go.Proofs.YtignchefkihdaaaDoor
open Go.ChangeShapes Go.WideShapes Go.ChangeAt Go.RowKit
/-- Block g is one cell of type t that holds v. -/
def One (w : World) (g : Nat) (t : TypeId) (v : Value) : Prop := w.heap[g]? = some (.cells #[v] t (0, 0))
section
variable {w w' : World} {g : Nat} {t : TypeId} {v : Value}
theorem One.lt (h : One w g t v) : g < w.heap.size := (Array.getElem?_eq_some_iff.1 h).1
theorem One.cell (h : One w g t v) : w.cell? ⟨g, 0, none⟩ = some v := by rw [cell_of_row w g 0 #[v] t (0, 0) h]; rfl
theorem One.free (h : One w g t v) : w.frozen? ⟨g, 0, none⟩ = false := frozen_of_row w g 0 #[v] t h
theorem One.new (w : World) (t : TypeId) (v : Value) : One (w.alloc (.cells #[v] t)) w.heap.size t v := heap_alloc_new w _
theorem One.set (h : One w g t v) (u : Value) : One (w.setCell ⟨g, 0, none⟩ u) g t u := heap_setCell_same w g 0 #[v] t u h
theorem One.keep (h : One w g t v) (hk : w'.heap[g]? = w.heap[g]?) : One w' g t v := hk.trans h
theorem One.below {B : Nat} (h : One w g t v) (hb : Below B w w') (hg : g < B) : One w' g t v := h.keep (hb.block g hg)
theorem One.newer (h : One w g t v) (hb : Below w.heap.size w w') : One w' g t v := h.keep (hb.block g h.lt)
theorem One.out {lo hi : Nat} (h : One w g t v) (o : Out lo hi w w') (hd : g < lo ∨ hi ≤ g) : One w' g t v := h.keep (o.block g h.lt hd)
theorem One.far (h : One w g t v) {p : Addr} (hp : g ≠ p.block) (u : Value) : One (w.setCell p u) g t v := h.keep (Below.heap_setCell w p u g hp)
theorem Out.setCell {g lo hi : Nat} (w : World) (h1 : lo ≤ g) (h2 : g < hi) (k : Nat) (u : Value) : Out lo hi w (w.setCell ⟨g, k, none⟩ u) :=
  ⟨rfl, rfl, rfl, by simp, fun b _ hb => Below.heap_setCell w ⟨g, k, none⟩ u b (by simp; omega)⟩
end
end Go.Proofs.YtignchefkihdaaaDoor

/- Sums of chapter 10, without code: formulas, their values, letters and joins. -/
namespace Go.Proofs.YtignchefkihdaaaDoor
/-- How many values lie on the pile after one sign more. -/
def stF (o : Option Nat) (x : Int) : Option Nat :=
  match o with
  | none => none
  | some n => if 0 ≤ x ∧ x ≤ 5 then some (n + 1) else if x = -1 ∧ 1 ≤ n then some n else if (-4 ≤ x ∧ x ≤ -2) ∧ 2 ≤ n then some (n - 1) else none
def cntF (f : List Int) : Option Nat := f.foldl stF (some 0)
def isF (f : List Int) : Bool := decide (cntF f = some 1) && decide (f.length ≤ 24)
theorem cntF_snoc (f : List Int) (x : Int) : cntF (f ++ [x]) = stF (cntF f) x := by simp [cntF, List.foldl_append]
theorem stF_none (f : List Int) : f.foldl stF none = none := by
  induction f with
  | nil => rfl
  | cons x f ih => exact ih
theorem cntF_pre {f : List Int} {k : Nat} (h : cntF (f.take k) = none) : cntF f = none := by
  have e : f = f.take k ++ f.drop k := (List.take_append_drop k f).symm
  rw [e]
  unfold cntF at h ⊢
  rw [List.foldl_append, h]
  exact stF_none _
theorem stF_let {j : Nat} {x : Int} (h : 0 ≤ x ∧ x ≤ 5) : stF (some j) x = some (j + 1) := by simp only [stF]; rw [if_pos h]
theorem stF_not {j : Nat} (h : 1 ≤ j) : stF (some j) (-1) = some j := by simp only [stF]; simp [h]
theorem stF_op {j : Nat} {x : Int} (h : -4 ≤ x ∧ x ≤ -2) (hj : 2 ≤ j) : stF (some j) x = some (j - 1) := by simp only [stF]; rw [if_neg (by omega), if_neg (by omega), if_pos ⟨h, hj⟩]
theorem stF_bad {j : Nat} {x : Int} (h1 : ¬ (0 ≤ x ∧ x ≤ 5)) (h2 : ¬ (x = -1 ∧ 1 ≤ j)) (h3 : ¬ ((-4 ≤ x ∧ x ≤ -2) ∧ 2 ≤ j)) : stF (some j) x = none := by simp only [stF]; rw [if_neg h1, if_neg h2, if_neg h3]
/-- The pile of values, the top last. -/
def opB (x : Int) (a b : Bool) : Bool := if x = -2 then a && b else if x = -3 then a || b else !a || b
def stV (L : List Bool) (p : List Bool) (x : Int) : List Bool :=
  if 0 ≤ x then p ++ [L.getD x.toNat false] else if x = -1 then p.dropLast ++ [!(p.getLastD false)] else p.dropLast.dropLast ++ [opB x (p.dropLast.getLastD false) (p.getLastD false)]
def pileV (L : List Bool) (f : List Int) : List Bool := f.foldl (stV L) []
theorem pileV_snoc (L : List Bool) (f : List Int) (x : Int) : pileV L (f ++ [x]) = stV L (pileV L f) x := by simp [pileV, List.foldl_append]
def valB (f : List Int) (L : List Bool) : Bool := isF f && (pileV L f).headD false
/-- The pile has as many values as are counted. -/
theorem stF_some {o : Option Nat} {x : Int} {m : Nat} (h : stF o x = some m) : ∃ n, o = some n ∧ ((0 ≤ x ∧ x ≤ 5 ∧ m = n + 1) ∨ (x = -1 ∧ 1 ≤ n ∧ m = n) ∨ (-4 ≤ x ∧ x ≤ -2 ∧ 2 ≤ n ∧ m = n - 1)) := by
  cases o with
  | none => cases h
  | some n =>
    refine ⟨n, rfl, ?_⟩
    unfold stF at h
    simp only at h
    split at h
    · next c => injection h with h; exact .inl ⟨c.1, c.2, h.symm⟩
    · split at h
      · next c => injection h with h; exact .inr (.inl ⟨c.1, c.2, h.symm⟩)
      · split at h
        · next c => injection h with h; exact .inr (.inr ⟨c.1.1, c.1.2, c.2, h.symm⟩)
        · cases h
theorem stV_len {L : List Bool} {p : List Bool} {x : Int} {o : Option Nat} {m : Nat} (ho : o = some p.length) (h : stF o x = some m) : (stV L p x).length = m := by
  obtain ⟨n, e, h⟩ := stF_some h
  rw [ho] at e
  injection e with e
  unfold stV
  rcases h with ⟨h1, _, rfl⟩ | ⟨rfl, h2, rfl⟩ | ⟨h1, h2, h3, rfl⟩
  · rw [if_pos h1]; simp [e]
  · rw [if_neg (by decide), if_pos rfl]; simp; omega
  · rw [if_neg (by omega), if_neg (by omega)]; simp; omega
theorem cnt_some_pre {f g : List Int} {m : Nat} (h : cntF (f ++ g) = some m) : ∃ n, cntF f = some n := by
  cases hf : cntF f with
  | none =>
    unfold cntF at h hf
    rw [List.foldl_append, hf, stF_none] at h
    cases h
  | some n => exact ⟨n, rfl⟩
theorem pile_len {L : List Bool} {f : List Int} {n : Nat} (h : cntF f = some n) : (pileV L f).length = n := by
  have key : ∀ (k : Nat) (f : List Int) (n : Nat), f.length = k → cntF f = some n → (pileV L f).length = n := by
    intro k
    induction k with
    | zero =>
      intro f n hl h
      obtain rfl := List.eq_nil_of_length_eq_zero hl
      injection h with h
    | succ k ih =>
      intro f n hl h
      obtain ⟨g, x, rfl⟩ : ∃ g x, f = g ++ [x] := ⟨f.dropLast, f.getLast (by intro e; rw [e] at hl; cases hl), (List.dropLast_concat_getLast _).symm⟩
      rw [pileV_snoc]
      rw [cntF_snoc] at h
      obtain ⟨m, hm⟩ := cnt_some_pre (f := g) (g := [x]) (by rw [cntF_snoc]; exact h)
      exact stV_len (o := cntF g) (by rw [hm, ih g m (by simpa using hl) hm]) h
  exact key _ f n rfl h
theorem last_app {α : Type} {p q : List α} (h : p ≠ []) : (q ++ p).getLast? = p.getLast? := by
  rw [List.getLast?_append]
  cases hp : p.getLast? with
  | none => exact absurd (List.getLast?_eq_none_iff.1 hp) h
  | some a => rfl
/-- A formula behind what is there puts one value on the pile. -/
theorem cnt_from (f : List Int) : ∀ (n j : Nat), f.foldl stF (some n) = some j → ∀ d, f.foldl stF (some (n + d)) = some (j + d) := by
  induction f with
  | nil => intro n j h d; injection h with h; subst h; rfl
  | cons x f ih =>
    intro n j h d
    rw [List.foldl_cons] at h ⊢
    cases hs : stF (some n) x with
    | none => rw [hs, stF_none] at h; cases h
    | some m =>
      rw [hs] at h
      have e : stF (some (n + d)) x = some (m + d) := by
        obtain ⟨n', e, hc⟩ := stF_some hs
        injection e with e
        subst e
        unfold stF
        simp only
        rcases hc with ⟨h1, h2, rfl⟩ | ⟨rfl, h2, rfl⟩ | ⟨h1, h2, h3, rfl⟩
        · rw [if_pos ⟨h1, h2⟩]; congr 1; omega
        · rw [if_neg (by decide), if_pos ⟨rfl, by omega⟩]
        · rw [if_neg (by omega), if_neg (by omega), if_pos ⟨⟨h1, h2⟩, by omega⟩]; congr 1; omega
      rw [e]
      exact ih m j h d
theorem pile_from (L : List Bool) (f : List Int) : ∀ (p q : List Bool) (j : Nat), f.foldl stF (some p.length) = some j → f.foldl (stV L) (q ++ p) = q ++ f.foldl (stV L) p := by
  induction f with
  | nil => intro p q j _; rfl
  | cons x f ih =>
    intro p q j h
    rw [List.foldl_cons] at h
    rw [List.foldl_cons, List.foldl_cons]
    cases hs : stF (some p.length) x with
    | none => rw [hs, stF_none] at h; cases h
    | some m =>
      rw [hs] at h
      have hl := stV_len (L := L) (p := p) rfl hs
      have e : stV L (q ++ p) x = q ++ stV L p x := by
        obtain ⟨n, e, hc⟩ := stF_some hs
        injection e with e
        unfold stV
        rcases hc with ⟨h1, _, _⟩ | ⟨rfl, h2, _⟩ | ⟨h1, h2, h3, _⟩
        · rw [if_pos h1, if_pos h1, List.append_assoc]
        · have hp : p ≠ [] := fun e' => by rw [e'] at e; simp at e; omega
          rw [if_neg (by decide), if_pos rfl, if_neg (by decide), if_pos rfl]
          rw [List.dropLast_append_of_ne_nil hp, List.append_assoc]
          congr 3
          rw [List.getLastD_eq_getLast?, List.getLastD_eq_getLast?, last_app hp]
        · have hp : p ≠ [] := fun e' => by rw [e'] at e; simp at e; omega
          have hp2 : p.dropLast ≠ [] := fun e' => by
            have := congrArg List.length e'
            simp at this
            omega
          rw [if_neg (by omega), if_neg (by omega), if_neg (by omega), if_neg (by omega)]
          rw [List.dropLast_append_of_ne_nil hp, List.dropLast_append_of_ne_nil hp2, List.append_assoc]
          rw [List.getLastD_eq_getLast?, List.getLastD_eq_getLast?, List.getLastD_eq_getLast?, List.getLastD_eq_getLast?, last_app hp, last_app hp2]
      rw [e]
      exact ih _ q j (by rw [hl]; exact h)
theorem isF_cnt {f : List Int} (h : isF f = true) : cntF f = some 1 := by
  unfold isF at h
  rw [Bool.and_eq_true, decide_eq_true_iff] at h
  exact h.1
theorem isF_len {f : List Int} (h : isF f = true) : f.length ≤ 24 := by
  unfold isF at h
  rw [Bool.and_eq_true, decide_eq_true_iff, decide_eq_true_iff] at h
  exact h.2
theorem pile_one {L : List Bool} {f : List Int} (h : isF f = true) : pileV L f = [valB f L] := by
  have hl := pile_len (L := L) (isF_cnt h)
  match hp : pileV L f, hl with
  | [b], _ => unfold valB; rw [h, hp]; rfl
theorem val_of {L : List Bool} {f : List Int} {b : Bool} (h : isF f = true) (hp : pileV L f = [b]) : valB f L = b := by
  unfold valB
  rw [h, hp]
  rfl
def notL (f : List Int) : List Int := if isF (f ++ [-1]) then f ++ [-1] else []
def joinL (a b : List Int) (x : Int) : List Int := if isF a && isF b && inr x (-4) (-2) && isF (a ++ b ++ [x]) then a ++ b ++ [x] else []
theorem isF_not {f : List Int} (h : isF (f ++ [-1]) = true) : isF f = true := by
  have h1 := isF_cnt h
  have h2 := isF_len h
  rw [cntF_snoc] at h1
  obtain ⟨n, e, hc⟩ := stF_some h1
  have : n = 1 := by omega
  subst this
  simp at h2
  unfold isF
  rw [e, decide_eq_true rfl, decide_eq_true (by omega)]
  rfl
theorem val_not {f : List Int} {L : List Bool} (h : isF (f ++ [-1]) = true) : valB (f ++ [-1]) L = !(valB f L) := by
  refine val_of h ?_
  rw [pileV_snoc, pile_one (isF_not h)]
  rfl
theorem val_join {a b : List Int} {x : Int} {L : List Bool} (ha : isF a = true) (hb : isF b = true) (hx : -4 ≤ x ∧ x ≤ -2) (h : isF (a ++ b ++ [x]) = true) : valB (a ++ b ++ [x]) L = opB x (valB a L) (valB b L) := by
  refine val_of h ?_
  have e : pileV L (a ++ b) = [valB a L, valB b L] := by
    have h1 : pileV L (a ++ b) = b.foldl (stV L) (pileV L a ++ []) := by simp [pileV, List.foldl_append]
    rw [h1, pile_from L b [] (pileV L a) 1 (isF_cnt hb), pile_one ha]
    have : b.foldl (stV L) [] = pileV L b := rfl
    rw [this, pile_one hb]
    rfl
  rw [pileV_snoc, e]
  unfold stV
  rw [if_neg (by omega), if_neg (by omega)]
  rfl
/-- The letters, ascending. -/
def putL (n : Int) : List Int → List Int
  | [] => [n]
  | x :: l => if x < n then x :: putL n l else if x = n then x :: l else n :: x :: l
def letL (f : List Int) : List Int := if isF f then f.foldl (fun l x => if 0 ≤ x then putL x l else l) [] else []
theorem putL_mem {n z : Int} : ∀ {l : List Int}, z ∈ putL n l ↔ z = n ∨ z ∈ l
  | [] => by simp [putL]
  | x :: l => by
    have ih := putL_mem (n := n) (z := z) (l := l)
    unfold putL
    split
    · rw [List.mem_cons, ih, List.mem_cons]
      constructor
      · rintro (h | h | h)
        · exact .inr (.inl h)
        · exact .inl h
        · exact .inr (.inr h)
      · rintro (h | h | h)
        · exact .inr (.inl h)
        · exact .inl h
        · exact .inr (.inr h)
    · split
      · next h => subst h; simp
      · simp
theorem putL_asc {n : Int} : ∀ {l : List Int}, l.Pairwise (· < ·) → (putL n l).Pairwise (· < ·)
  | [], _ => by simp [putL]
  | x :: l, h => by
    have h' := List.pairwise_cons.1 h
    unfold putL
    split
    · next hx =>
      refine List.pairwise_cons.2 ⟨fun z hz => ?_, putL_asc h'.2⟩
      rcases putL_mem.1 hz with rfl | hz
      · exact hx
      · exact h'.1 z hz
    · split
      · exact h
      · next h1 h2 =>
        refine List.pairwise_cons.2 ⟨fun z hz => ?_, h⟩
        rcases List.mem_cons.1 hz with rfl | hz
        · omega
        · have := h'.1 z hz; omega
def putAll (f : List Int) (l : List Int) : List Int := f.foldl (fun l x => if 0 ≤ x then putL x l else l) l
theorem putAll_mem {z : Int} : ∀ {f l : List Int}, z ∈ putAll f l ↔ z ∈ l ∨ (z ∈ f ∧ 0 ≤ z)
  | [], l => by simp [putAll]
  | x :: f, l => by
    have ih := putAll_mem (z := z) (f := f) (l := if 0 ≤ x then putL x l else l)
    unfold putAll at ih ⊢
    rw [List.foldl_cons, ih]
    by_cases hx : 0 ≤ x
    · rw [if_pos hx, putL_mem, List.mem_cons]
      constructor
      · rintro ((h | h) | h)
        · exact .inr ⟨.inl h, by omega⟩
        · exact .inl h
        · exact .inr ⟨.inr h.1, h.2⟩
      · rintro (h | ⟨h | h, h0⟩)
        · exact .inl (.inr h)
        · exact .inl (.inl h)
        · exact .inr ⟨h, h0⟩
    · rw [if_neg hx, List.mem_cons]
      constructor
      · rintro (h | h)
        · exact .inl h
        · exact .inr ⟨.inr h.1, h.2⟩
      · rintro (h | ⟨h | h, h0⟩)
        · exact .inl h
        · exact absurd (h ▸ h0) hx
        · exact .inr ⟨h, h0⟩
theorem putAll_asc : ∀ {f l : List Int}, l.Pairwise (· < ·) → (putAll f l).Pairwise (· < ·)
  | [], _, h => h
  | x :: f, l, h => by
    unfold putAll
    rw [List.foldl_cons]
    refine putAll_asc (f := f) ?_
    split
    · exact putL_asc h
    · exact h
theorem letL_asc (f : List Int) : (letL f).Pairwise (· < ·) := by
  unfold letL
  split
  · exact putAll_asc List.Pairwise.nil
  · exact List.Pairwise.nil
theorem letL_mem {f : List Int} {z : Int} : z ∈ letL f ↔ isF f = true ∧ z ∈ f ∧ 0 ≤ z := by
  unfold letL
  split
  · next h => rw [show (f.foldl (fun l x => if 0 ≤ x then putL x l else l) []) = putAll f [] from rfl, putAll_mem]; simp [h]
  · next h => simp [h]
/-- What letters say that a formula does not have changes nothing. -/
theorem pile_same {L M : List Bool} : ∀ (f : List Int) (p : List Bool), (∀ z ∈ f, 0 ≤ z → L.getD z.toNat false = M.getD z.toNat false) → f.foldl (stV L) p = f.foldl (stV M) p
  | [], _, _ => rfl
  | x :: f, p, h => by
    rw [List.foldl_cons, List.foldl_cons]
    have e : stV L p x = stV M p x := by
      unfold stV
      by_cases hx : 0 ≤ x
      · rw [if_pos hx, if_pos hx, h x (by simp) hx]
      · rw [if_neg hx, if_neg hx]
    rw [e]
    exact pile_same f _ fun z hz h0 => h z (List.mem_cons_of_mem _ hz) h0
theorem val_same {f : List Int} {L M : List Bool} (h : ∀ z ∈ f, 0 ≤ z → L.getD z.toNat false = M.getD z.toNat false) : valB f L = valB f M := by
  unfold valB pileV
  rw [pile_same f [] h]
/-- The text, as a pile of texts. -/
def opT (x : Int) : List UInt8 := if x = -2 then [38] else if x = -3 then [124] else [62]
def stT (p : List (List UInt8)) (x : Int) : List (List UInt8) :=
  if 0 ≤ x then p ++ [[UInt8.ofNat (97 + x.toNat)]] else if x = -1 then p.dropLast ++ [33 :: p.getLastD []] else p.dropLast.dropLast ++ [40 :: (p.dropLast.getLastD [] ++ opT x ++ p.getLastD [] ++ [41])]
def pileT (f : List Int) : List (List UInt8) := f.foldl stT []
def txtF (f : List Int) : List UInt8 := if isF f then (pileT f).headD [] else []
end Go.Proofs.YtignchefkihdaaaDoor
