/- Maps from pairs of integers to integers that a call made, told by a function (f: what a key has) and the list of its keys. Conditions: keys' parts and values of 64 bits. -/
import Derived.Test.YthkigilegnjglaaMg7
import Derived.DeepKeys4
import Derived.Test.YthkigilegnjglaaMg2
namespace Go.Proofs.Ythkigilegnjglaa
open Go.ChangeShapes Go.WideShapes Go.ChangeAt Go.RowKit
set_option maxRecDepth 100000
theorem pr_row : (38 : TypeId) < Try.prog.types.size := of_decide_eq_true (by kernel_rfl)
theorem pr_wide : (match Try.prog.underlying 38 with | some (.array _ _) | some (.struct _) => true | _ => false) = true := by rw [Try.underlying38]
theorem pr_laid : laidOutB Try.prog = true := by kernel_rfl
theorem pr_law : Maps.Keyed Try.prog 38 := Maps.Keyed.of_law (deep_law_laid pr_laid (m := 3) (by omega) pr_row (by kernel_rfl) pr_wide)
theorem pr_cells : Try.prog.cellsOf 38 = 2 := by kernel_rfl
theorem pr_icells : Try.prog.cellsOf 3 = 1 := by kernel_rfl
theorem pr_kt : Try.prog.keyType 38 = true := by kernel_rfl
abbrev prV (p : Int × Int) : Value := .agg #[.int .i64 p.1, .int .i64 p.2]
def IP (p : Int × Int) : Prop := I6 p.1 ∧ I6 p.2
theorem pr_key0 {p : Int × Int} (hp : IP p) : ∃ kl, keyOf Try.prog 38 (prV p) = some kl := by
  have hrow := pr_row
  obtain ⟨m, hm⟩ : ∃ m, Try.prog.types.size = m + 1 := by
    cases h : Try.prog.types.size with
    | zero => rw [h] at hrow; exact absurd hrow (Nat.not_lt_zero _)
    | succ m => exact ⟨m, rfl⟩
  obtain ⟨k, rfl⟩ : ∃ k, m = k + 1 := by
    cases m with
    | zero => rw [hm] at hrow; exact absurd hrow (by decide)
    | succ k => exact ⟨k, rfl⟩
  unfold keyOf prV
  simp only [Try.underlying38]
  rw [if_pos (by simp [pr_kt, Value.formed, Try.underlying38, pr_cells]), hm]
  unfold Program.keyLits
  simp only [Try.underlying38, Value.cells]
  rw [if_pos (by rw [pr_cells]; exact ⟨rfl, by kernel_rfl⟩)]
  simp [List.mapM_cons, Program.keyLits, Try.underlying3, i6_wf hp.1, i6_wf hp.2, pr_icells]
/-- What a pair reads as. -/
noncomputable def prK (p : Int × Int) : Lit := (keyOf Try.prog 38 (prV p)).getD (.bool false)
theorem pr_key {p : Int × Int} (hp : IP p) : keyOf Try.prog 38 (prV p) = some (prK p) := by
  obtain ⟨kl, h⟩ := pr_key0 hp
  unfold prK; rw [h]; rfl
theorem pr_isKey {p : Int × Int} (hp : IP p) : WideAt.IsKeyLit (prK p) := pr_law.key (pr_key hp)
theorem pr_inj {p q : Int × Int} (hp : IP p) (hq : IP q) (h : prK p = prK q) : p = q := by
  have e := pr_law.inj (pr_key hp) ((pr_key hq).trans (by rw [h]))
  injection e with e
  have e := congrArg Array.toList e
  simp at e
  exact Prod.ext e.1 e.2
theorem pr_ne {p q : Int × Int} (hp : IP p) (hq : IP q) (h : p ≠ q) : prK p ≠ prK q := fun e => h (pr_inj hp hq e)
/-- Block B is a map with at most n entries, the keys K; key a has f a. -/
def PM (f : Int × Int → Option Int) (K : List (Int × Int)) (B n : Nat) (w : World) : Prop := ∃ D : DataW Unit, w.ownsMap Try.prog 38 (plainElem (H := Unit) Try.prog 3) B n D ∧ Maps.Tidy D ∧ (∀ a, IP a → D.atKey (prK a) (.lit (.int .i64 0)) = .lit (.int .i64 ((f a).getD 0))) ∧ (∀ a, IP a → Maps.has D (prK a) = (f a).isSome) ∧ Maps.size D = K.length ∧ K.Nodup ∧ (∀ a, a ∈ K ↔ (f a).isSome = true)
def ppF (f : Int × Int → Option Int) (a : Int × Int) (v : Int) : Int × Int → Option Int := fun b => if b = a then some v else f b
def pdF (f : Int × Int → Option Int) (a : Int × Int) : Int × Int → Option Int := fun b => if b = a then none else f b
def ppK (f : Int × Int → Option Int) (K : List (Int × Int)) (a : Int × Int) : List (Int × Int) := if (f a).isSome then K else K ++ [a]
section
variable {f : Int × Int → Option Int} {K : List (Int × Int)} {B n : Nat} {w w' : World} {a : Int × Int} {v : Int} {t : TypeId}
theorem PM.lt (h : PM f K B n w) : B < w.heap.size := by
  obtain ⟨D, ho, _⟩ := h
  exact ho.lt
theorem PM.kept (h : PM f K B n w) (hb : w'.heap[B]? = w.heap[B]?) : PM f K B n w' := by
  obtain ⟨D, ⟨es, clock, h1, h2⟩, h3⟩ := h
  exact ⟨D, ⟨es, clock, hb.trans h1, h2⟩, h3⟩
theorem PM.new (h : PM f K B n w) (hb : Below w.heap.size w w') : PM f K B n w' := h.kept (hb.block B h.lt)
theorem PM.out {lo hi : Nat} (h : PM f K B n w) (o : Out lo hi w w') (hd : B < lo ∨ hi ≤ B) : PM f K B n w' := h.kept (o.block B h.lt hd)
theorem PM.more {n' : Nat} (h : PM f K B n w) (hn : n ≤ n') : PM f K B n' w := by
  obtain ⟨D, ho, h2⟩ := h
  exact ⟨D, ho.mono hn, h2⟩
theorem PM.made (w : World) : PM (fun _ => none) [] w.heap.size 0 (w.alloc (.map #[] 0)) := ⟨.map [], World.ownsMap_made w _ _ _, Maps.tidy_empty, fun _ _ => rfl, fun _ _ => rfl, rfl, List.nodup_nil, by simp⟩
theorem PM.size (h : PM f K B n w) (ht : Try.prog.underlying t = some (.map 38 3)) (ty : TypeId) : (Builtin.len_ #[t] ty #[.map (some B)]).run Try.prog w = .ok (.int .i64 (K.length : Nat)) w := by
  obtain ⟨D, ⟨es, clock, hb, _, _, hD⟩, _, _, _, h1, _⟩ := h
  have e : Maps.size D = es.size := by
    rw [hD, Maps.size_eq, length_sorted]
    simp
  rw [e] at h1
  rw [← h1]
  simp [Builtin.len_, run_underlying ht, MapKept.run_getObj_map hb, goInt]
theorem PM.get (h : PM f K B n w) (ht : Try.prog.underlying t = some (.map 38 3)) (ha : IP a) : (Instr.lookup t (.map (some B)) (prV a) false).run Try.prog w = .ok (.int .i64 ((f a).getD 0)) w := by
  obtain ⟨D, ho, hm, hat, _⟩ := h
  obtain ⟨u, ps, hrun, hv⟩ := ho.lookup pr_law ht (im_zero w) (plainElem_int Try.underlying3 (by decide)) (pr_key ha)
  rw [hat a ha] at hv
  rw [hrun]
  obtain ⟨x, rfl, hx, _⟩ := plainElem_int_inv Try.underlying3 hv
  simp at hx
  rw [hx.1]
theorem PM.put (h : PM f K B n w) (ht : Try.prog.underlying t = some (.map 38 3)) (hn : n < 1099511627776) (ha : IP a) (hv : I6 v) :
    ∃ w', (Instr.mapUpdate t (.map (some B)) (prV a) (.int .i64 v)).run Try.prog w = .ok () w' ∧ PM (ppF f a v) (ppK f K a) B (n + 1) w' ∧ Out B (B + 1) w w' := by
  obtain ⟨D, ho, htd, hat, hhas, hsz, hnd, hk⟩ := h
  have hm := htd.isMap
  have hkl : WideAt.IsKeyLit (prK a) := pr_isKey ha
  obtain ⟨w', hrun, ho', hg⟩ := ho.update pr_law ht (by unfold maxLen; omega) (pr_key ha) (plainElem_int Try.underlying3 (i6_wf hv))
  refine ⟨w', hrun, ⟨_, ho', htd.put hkl _, fun b hb => ?_, fun b hb => ?_, ?_, ?_, fun b => ?_⟩, ⟨hg.os, hg.tape, hg.output, hg.size, fun k hk hd => hg.block k hk (by simp; omega)⟩⟩
  · unfold ppF
    by_cases e : b = a
    · subst e
      rw [Maps.atKey_put_same hm hkl]
      simp
    · rw [Maps.atKey_put_other (pr_ne hb ha e), hat b hb, if_neg e]
  · unfold ppF
    by_cases e : b = a
    · subst e
      rw [Maps.has_put_same hm hkl]
      simp
    · rw [Maps.has_put_other (pr_ne hb ha e), hhas b hb, if_neg e]
  · rw [Maps.size_put htd, hhas a ha]
    unfold ppK
    split <;> simp_all
  · unfold ppK
    split
    · exact hnd
    · rename_i hc
      exact List.nodup_append.2 ⟨hnd, by simp, fun x hx y hy e => by
        have : y = a := by simpa using hy
        subst this
        subst e
        exact hc ((hk x).1 hx)⟩
  · unfold ppK ppF
    by_cases e : b = a
    · subst e
      simp only [if_true, Option.isSome_some, iff_true]
      split
      · rename_i hc
        exact (hk b).2 hc
      · simp
    · rw [if_neg e]
      split
      · exact hk b
      · simp only [List.mem_append, List.mem_singleton, e, or_false]
        exact hk b
theorem PM.ok (h : PM f K B n w) (ht : Try.prog.underlying t = some (.map 38 3)) (ha : IP a) : (Instr.lookup t (.map (some B)) (prV a) true).run Try.prog w = .ok (.tuple #[.int .i64 ((f a).getD 0), .bool (f a).isSome]) w := by
  obtain ⟨D, ho, hm, hat, hhas, _⟩ := h
  obtain ⟨u, ps, hrun, hv⟩ := ho.look_ok pr_law ht (im_zero w) (plainElem_int Try.underlying3 (by decide)) (pr_key ha)
  rw [hat a ha] at hv
  rw [hrun, hhas a ha]
  obtain ⟨x, rfl, hx, _⟩ := plainElem_int_inv Try.underlying3 hv
  simp at hx
  rw [hx.1]
def pdK (K : List (Int × Int)) (a : Int × Int) : List (Int × Int) := K.filter fun b => decide (b ≠ a)
theorem PM.del (h : PM f K B n w) (ht : Try.prog.underlying t = some (.map 38 3)) (ha : IP a) (ty : TypeId) :
    ∃ w', (Builtin.delete_ #[t, 38] ty #[.map (some B), prV a]).run Try.prog w = .ok (.tuple #[]) w' ∧ PM (pdF f a) (pdK K a) B n w' ∧ Out B (B + 1) w w' := by
  obtain ⟨D, ho, htd, hat, hhas, hsz, hnd, hk⟩ := h
  obtain ⟨w', hrun, ho', hg⟩ := ho.drop pr_law ht (pr_key ha) ty
  refine ⟨w', hrun, ⟨_, ho', htd.del _, fun b hb => ?_, fun b hb => ?_, ?_, ?_, fun b => ?_⟩, ⟨hg.grown.os, hg.grown.tape, hg.grown.output, hg.grown.size, fun k hk hd => hg.grown.block k hk (by simp; omega)⟩⟩
  · unfold pdF
    by_cases e : b = a
    · subst e
      rw [Maps.atKey_del_same]
      simp
    · rw [Maps.atKey_del_other (pr_ne hb ha e), hat b hb, if_neg e]
  · unfold pdF
    by_cases e : b = a
    · subst e
      rw [Maps.has_del_same]
      simp
    · rw [Maps.has_del_other (pr_ne hb ha e), hhas b hb, if_neg e]
  · have h1 := Maps.size_del (k := prK a) htd
    rw [hhas a ha] at h1
    have h2 : (pdK K a).length + (if (f a).isSome then 1 else 0) = K.length := by
      unfold pdK
      by_cases hc : a ∈ K
      · rw [if_pos ((hk a).1 hc)]
        have := hnd.erase_eq_filter a
        rw [show K.filter (fun b => decide (b ≠ a)) = K.erase a by rw [this]; congr 1; funext b; by_cases e : b = a <;> simp [e]]
        rw [List.length_erase_of_mem hc]
        have := List.length_pos_of_mem hc
        omega
      · rw [if_neg (fun h => hc ((hk a).2 h))]
        rw [List.filter_eq_self.2 (fun b hb => by simp; rintro rfl; exact hc hb)]
        rfl
    omega
  · exact hnd.filter _
  · unfold pdK pdF
    rw [List.mem_filter]
    by_cases e : b = a
    · subst e
      simp
    · rw [if_neg e]
      simp [e, hk b]
end
end Go.Proofs.Ythkigilegnjglaa

/- Mathematics of ascending Ids: ascB. No conditions. -/
namespace Go.Proofs.Ythkigilegnjglaa
open Go.ChangeShapes Go.WideShapes Go.ChangeAt Go.RowKit
/-- The number at k is from 1 to 99 and greater than the one before. -/
def ascAt (S : List Int) (k : Nat) : Bool := inr (S.getD k 0) 1 99 && ((k == 0) || decide (S.getD (k - 1) 0 < S.getD k 0))
def ascB (S : List Int) : Bool := (List.range S.length).all (ascAt S)
theorem ascD {S : List Int} {k : Nat} (h : k < S.length) : S.getD k 0 = S[k] := by simp [List.getD, List.getElem?_eq_getElem h]
theorem asc_no {S : List Int} {k : Nat} (hk : k < S.length) (h : ascAt S k = false) : ascB S = false := by
  unfold ascB
  rw [List.all_eq_false]
  exact ⟨k, List.mem_range.2 hk, by simp [h]⟩
theorem asc_0 {S : List Int} {k : Nat} {x : Int} (hx : S.getD k 0 = x) (h : inr x 1 99 = false) : ascAt S k = false := by
  unfold ascAt
  rw [hx, h, Bool.false_and]
theorem asc_1 {S : List Int} {x : Int} (hx : S.getD 0 0 = x) (h : inr x 1 99 = true) : ascAt S 0 = true := by
  unfold ascAt
  rw [hx, h]
  rfl
theorem asc_2 {S : List Int} {k j : Nat} {x y : Int} (hx : S.getD k 0 = x) (e : k = j + 1) (hy : S.getD j 0 = y) (h : inr x 1 99 = true) : ascAt S k = decide (y < x) := by
  unfold ascAt
  rw [hx, show k - 1 = j by omega, hy, h, Bool.true_and, show (k == 0) = false by simp [e], Bool.false_or]
theorem asc_snoc {S : List Int} {k : Nat} (h : (List.range k).all (ascAt S) = true) (h2 : ascAt S k = true) : (List.range (k + 1)).all (ascAt S) = true := by
  rw [List.range_succ, List.all_append, h, List.all_cons, h2]
  rfl
theorem asc_end {S : List Int} {n : Nat} (hl : S.length = n) (h : (List.range n).all (ascAt S) = true) : ascB S = true := by
  unfold ascB
  rw [hl]; exact h
theorem asc_lt {S : List Int} (h : ascB S = true) : ∀ (j k : Nat) (hk : k < S.length) (hj : j < k), S[j] < S[k] := by
  unfold ascB at h
  have hall : ∀ k, k < S.length → ascAt S k = true := fun k hk => List.all_eq_true.1 h k (List.mem_range.2 hk)
  intro j k
  induction k with
  | zero => intro _ hj; omega
  | succ k ih =>
    intro hk hj
    have h1 := hall (k + 1) hk
    unfold ascAt at h1
    simp only [Bool.and_eq_true, Bool.or_eq_true, decide_eq_true_eq] at h1
    have h2 : S.getD k 0 < S.getD (k + 1) 0 := by
      rcases h1.2 with e | e
      · simp at e
      · simpa using e
    rw [ascD hk, ascD (show k < S.length by omega)] at h2
    rcases Nat.lt_or_ge j k with h3 | h3
    · have := ih (by omega) h3; omega
    · have : j = k := by omega
      subst this; exact h2
theorem asc_in {S : List Int} (h : ascB S = true) {k : Nat} (hk : k < S.length) : 1 ≤ S[k] ∧ S[k] ≤ 99 := by
  have h1 : ascAt S k = true := List.all_eq_true.1 h k (List.mem_range.2 hk)
  unfold ascAt at h1
  rw [Bool.and_eq_true, ascD hk] at h1
  have := h1.1
  unfold inr at this
  simp at this
  exact this
theorem asc_inj {S : List Int} (h : ascB S = true) {j k : Nat} (hj : j < S.length) (hk : k < S.length) (e : S[j] = S[k]) : j = k := by
  rcases Nat.lt_trichotomy j k with q | q | q
  · have := asc_lt h j k hk q; omega
  · exact q
  · have := asc_lt h k j hj q; omega
end Go.Proofs.Ythkigilegnjglaa

/- Mathematics of the map in which meetings wait (gE): the events E so far, what a pair has. No conditions. -/
namespace Go.Proofs.Ythkigilegnjglaa
open Go.ChangeShapes Go.WideShapes Go.ChangeAt Go.RowKit
def swP (e : Int × Int) : Int × Int := (e.2, e.1)
theorem swP_swP (e : Int × Int) : swP (swP e) = e := rfl
/-- How many more meetings of e than of the other way round. -/
def dE (E : List (Int × Int)) (e : Int × Int) : Int := (E.count e : Nat) - (E.count (swP e) : Nat)
theorem dE_sw (E : List (Int × Int)) (e : Int × Int) : dE E (swP e) = - dE E e := by unfold dE; rw [swP_swP]; omega
/-- What waits. -/
def gE (E : List (Int × Int)) (e : Int × Int) : Option Int := if 0 < dE E e then some (dE E e) else none
theorem gE_getD (E : List (Int × Int)) (e : Int × Int) : (gE E e).getD 0 = if 0 < dE E e then dE E e else 0 := by unfold gE; split <;> rfl
theorem gE_nil : gE [] = fun _ => none := by funext e; unfold gE dE; simp
theorem count_snoc (E : List (Int × Int)) (e x : Int × Int) : (E ++ [e]).count x = E.count x + if e = x then 1 else 0 := by
  rw [List.count_append, List.count_singleton]
  by_cases h : e = x <;> simp [h]
theorem dE_same {E : List (Int × Int)} {e : Int × Int} (h : e.1 ≠ e.2) : dE (E ++ [e]) e = dE E e + 1 := by
  have h2 : e ≠ swP e := fun q => h (congrArg Prod.fst q)
  unfold dE
  rw [count_snoc, count_snoc, if_pos rfl, if_neg h2]
  omega
theorem dE_swap {E : List (Int × Int)} {e : Int × Int} (h : e.1 ≠ e.2) : dE (E ++ [e]) (swP e) = dE E (swP e) - 1 := by
  rw [dE_sw, dE_same h, dE_sw]; omega
theorem dE_other {E : List (Int × Int)} {e x : Int × Int} (h1 : x ≠ e) (h2 : x ≠ swP e) : dE (E ++ [e]) x = dE E x := by
  have h3 : e ≠ swP x := fun q => h2 (by rw [q, swP_swP])
  unfold dE
  rw [count_snoc, count_snoc, if_neg (fun q => h1 q.symm), if_neg h3]
  omega
theorem gE_wait {E : List (Int × Int)} {e : Int × Int} (h : e.1 ≠ e.2) (h0 : (gE E (swP e)).getD 0 = 0) : gE (E ++ [e]) = ppF (gE E) e ((gE E e).getD 0 + 1) := by
  rw [gE_getD] at h0
  have hd : 0 ≤ dE E e := by rw [dE_sw] at h0; split at h0 <;> omega
  funext x
  unfold ppF
  by_cases e1 : x = e
  · subst e1
    rw [if_pos rfl, gE_getD]
    unfold gE
    rw [dE_same h, if_pos (by omega)]
    split <;> (congr 1 <;> omega)
  · rw [if_neg e1]
    by_cases e2 : x = swP e
    · subst e2
      unfold gE
      rw [dE_swap h, if_neg (by rw [dE_sw]; omega), if_neg (by rw [dE_sw]; omega)]
    · unfold gE
      rw [dE_other e1 e2]
theorem gE_one {E : List (Int × Int)} {e : Int × Int} (h : e.1 ≠ e.2) (h0 : (gE E (swP e)).getD 0 = 1) : gE (E ++ [e]) = pdF (gE E) (swP e) := by
  rw [gE_getD] at h0
  have hd : dE E (swP e) = 1 := by split at h0 <;> omega
  have hd2 : dE E e = -1 := by rw [dE_sw] at hd; omega
  funext x
  unfold pdF
  by_cases e2 : x = swP e
  · subst e2
    rw [if_pos rfl]
    unfold gE
    rw [dE_swap h, if_neg (by omega)]
  · rw [if_neg e2]
    by_cases e1 : x = e
    · subst e1
      unfold gE
      rw [dE_same h, if_neg (by omega), if_neg (by omega)]
    · unfold gE
      rw [dE_other e1 e2]
theorem gE_more {E : List (Int × Int)} {e : Int × Int} (h : e.1 ≠ e.2) (h0 : (gE E (swP e)).getD 0 ≠ 0) (h1 : (gE E (swP e)).getD 0 ≠ 1) : gE (E ++ [e]) = ppF (gE E) (swP e) ((gE E (swP e)).getD 0 - 1) := by
  rw [gE_getD] at h0 h1
  have hd : 1 < dE E (swP e) := by split at h0 <;> (split at h1 <;> omega)
  have hd2 : dE E e < -1 := by rw [dE_sw] at hd; omega
  funext x
  unfold ppF
  by_cases e2 : x = swP e
  · subst e2
    rw [if_pos rfl, gE_getD, if_pos (by omega)]
    unfold gE
    rw [dE_swap h, if_pos (by omega)]
  · rw [if_neg e2]
    by_cases e1 : x = e
    · subst e1
      unfold gE
      rw [dE_same h, if_neg (by omega), if_neg (by omega)]
    · unfold gE
      rw [dE_other e1 e2]
theorem gE_range (E : List (Int × Int)) (e : Int × Int) : 0 ≤ (gE E e).getD 0 ∧ (gE E e).getD 0 ≤ E.length := by
  rw [gE_getD]
  have := List.count_le_length (a := e) (l := E)
  unfold dE
  split <;> omega
/-- Nothing waits at the end: each pair has as many meetings as the other way round. -/
theorem gE_empty (E : List (Int × Int)) : (∀ e, (gE E e).isSome = false) ↔ ∀ e, E.count e = E.count (swP e) := by
  constructor
  · intro h e
    have h1 := h e
    have h2 := h (swP e)
    unfold gE at h1 h2
    rw [dE_sw] at h2
    have e1 : ¬ 0 < dE E e := fun q => by rw [if_pos q] at h1; cases h1
    have e2 : ¬ 0 < - dE E e := fun q => by rw [if_pos q] at h2; cases h2
    unfold dE at e1 e2
    omega
  · intro h e
    unfold gE dE
    rw [h e, if_neg (by omega)]
    rfl
end Go.Proofs.Ythkigilegnjglaa
