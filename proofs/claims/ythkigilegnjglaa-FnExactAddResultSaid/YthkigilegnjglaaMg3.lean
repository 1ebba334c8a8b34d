/- Sums of chapter 13, without code: points, who must speak about them, who won; and all that its law says. A point is (Id, Who, State). -/
import Derived.Test.YthkigilegnjglaaMg2
import Derived.Test.YthkigilegnjglaaMg1
import Derived.Laws.Slices
import Derived.Deep.Slices
import Derived.Lib.SmallJoins
namespace Go.Proofs.Ythkigilegnjglaa
abbrev T3 := Int × Int × Int
def ptOk (p : T3) : Bool := inr p.1 1 99 && inr p.2.1 1 2 && inr p.2.2 0 4
/-- The place i of a list of points is well. -/
def ptAt (l : List T3) (i : Nat) : Bool := ptOk (l.getD i (0, 0, 0)) && (i == 0 || decide ((l.getD (i - 1) (0, 0, 0)).1 < (l.getD i (0, 0, 0)).1))
def ptB (l : List T3) : Bool := (List.range l.length).all (ptAt l) && decide (l.length ≤ 30)
def raiK (l : List T3) (k : Int) : Nat := (l.takeWhile fun p => decide (p.1 < k)).length
def raiX (l : List T3) (k w : Int) : List T3 := l.take (raiK l k) ++ [(k, w, 0)] ++ l.drop (raiK l k)
def raiL (l : List T3) (k w : Int) : List T3 := if ptB (raiX l k w) then raiX l k w else l
/-- Whether who may turn p's state into s. -/
def repP (k w s : Int) (p : T3) : Bool := p.1 == k && ((p.2.2 == 0 && p.2.1 != w && inr s 1 2) || (p.2.2 == 2 && p.2.1 == w && inr s 3 4))
def repI (l : List T3) (k w s : Int) : Option Nat := if ptB l && inr w 1 2 then (List.range l.length).find? fun i => repP k w s (l.getD i (0, 0, 0)) else none
def repL (l : List T3) (k w s : Int) : List T3 := match repI l k w s with | some i => l.set i ((l.getD i (0, 0, 0)).1, (l.getD i (0, 0, 0)).2.1, s) | none => l
def mstP (side : Int) (p : T3) : Bool := (p.2.2 == 0 && p.2.1 != side) || (p.2.2 == 2 && p.2.1 == side)
def mstL (l : List T3) (side : Int) : List Int := if ptB l && inr side 1 2 then (l.filter (mstP side)).map (·.1) else []
def wonP (side : Int) (p : T3) : Int := if p.2.1 = side then (if p.2.2 = 1 ∨ p.2.2 = 3 then 1 else if p.2.2 = 4 then -1 else 0) else 0
def wonN (l : List T3) (side : Int) : Int := l.foldl (fun n p => n + wonP side p) 0
def setP (l : List T3) : Bool := ptB l && decide ((mstL l 1).length = 0) && decide ((mstL l 2).length = 0)
theorem inrI {a b c : Int} (h : inr a b c = true) : b ≤ a ∧ a ≤ c := by
  unfold inr at h
  simpa using h
theorem inrJ {a b c : Int} (h1 : b ≤ a) (h2 : a ≤ c) : inr a b c = true := by
  unfold inr
  simp [h1, h2]
theorem getT {l : List T3} {i : Nat} (h : i < l.length) : l.getD i (0, 0, 0) = l[i] := by simp [List.getD, h]
theorem ptB_iff {l : List T3} : ptB l = true ↔ (∀ i (h : i < l.length), ptOk l[i] = true) ∧ (∀ i (h : i + 1 < l.length), (l[i]).1 < (l[i + 1]).1) ∧ l.length ≤ 30 := by
  unfold ptB
  rw [Bool.and_eq_true, decide_eq_true_iff, List.all_eq_true]
  constructor
  · rintro ⟨h, hl⟩
    refine ⟨fun i hi => ?_, fun i hi => ?_, hl⟩
    · have := h i (List.mem_range.2 hi)
      unfold ptAt at this
      rw [getT hi, Bool.and_eq_true] at this
      exact this.1
    · have := h (i + 1) (List.mem_range.2 hi)
      unfold ptAt at this
      rw [getT hi, show i + 1 - 1 = i by omega, getT (show i < l.length by omega), Bool.and_eq_true] at this
      simpa using this.2
  · rintro ⟨h1, h2, hl⟩
    refine ⟨fun i hi => ?_, hl⟩
    have hi := List.mem_range.1 hi
    unfold ptAt
    rw [getT hi, h1 i hi, Bool.true_and]
    cases i with
    | zero => rfl
    | succ i =>
      rw [show i + 1 - 1 = i by omega, getT (show i < l.length by omega), decide_eq_true (h2 i hi)]
      simp
theorem rep_some {l : List T3} {k w s : Int} {i : Nat} (h : repI l k w s = some i) : ptB l = true ∧ inr w 1 2 = true ∧ ∃ hi : i < l.length, repP k w s l[i] = true := by
  unfold repI at h
  split at h
  · rename_i hh
    rw [Bool.and_eq_true] at hh
    have hm := List.mem_range.1 (List.mem_of_find?_eq_some h)
    have hp := List.find?_some h
    exact ⟨hh.1, hh.2, hm, by rwa [getT hm] at hp⟩
  · cases h
theorem rep_len (l : List T3) (k w s : Int) : (repL l k w s).length = l.length := by
  unfold repL
  split <;> simp
theorem rep_pt {l : List T3} {k w s : Int} {i : Nat} (h : repI l k w s = some i) : ptB (repL l k w s) = true := by
  obtain ⟨hp, hw, hi, hr⟩ := rep_some h
  obtain ⟨h1, h2, h3⟩ := ptB_iff.1 hp
  have hs : inr s 0 4 = true := by
    unfold repP at hr
    simp only [Bool.and_eq_true, Bool.or_eq_true] at hr
    rcases hr.2 with hr | hr
    · have := inrI hr.2; exact inrJ (by omega) (by omega)
    · have := inrI hr.2; exact inrJ (by omega) (by omega)
  have e : repL l k w s = l.set i ((l[i]).1, (l[i]).2.1, s) := by unfold repL; rw [h]; simp only [getT hi]
  rw [e, ptB_iff]
  refine ⟨fun j hj => ?_, fun j hj => ?_, by simpa using h3⟩
  · rw [List.getElem_set]
    split
    · rename_i hij
      subst hij
      have := h1 i hi
      unfold ptOk at this ⊢
      simp only [Bool.and_eq_true] at this ⊢
      exact ⟨this.1, hs⟩
    · exact h1 j (by simpa using hj)
  · have hj' : j + 1 < l.length := by simpa using hj
    have := h2 j hj'
    rw [List.getElem_set, List.getElem_set]
    split <;> split <;> simp_all
theorem rep_must {l : List T3} {k w s : Int} {i : Nat} (h : repI l k w s = some i) : (mstL l w).contains k = true := by
  obtain ⟨hp, hw, hi, hr⟩ := rep_some h
  unfold mstL
  rw [hp, hw, Bool.and_self, if_pos rfl, List.contains_iff_mem, List.mem_map]
  unfold repP at hr
  simp only [Bool.and_eq_true, Bool.or_eq_true] at hr
  refine ⟨l[i], List.mem_filter.2 ⟨List.getElem_mem hi, ?_⟩, by simpa using hr.1⟩
  unfold mstP
  rcases hr.2 with hr | hr
  · rw [hr.1.1, hr.1.2]; rfl
  · rw [hr.1.1, hr.1.2]; simp
theorem rai_len (l : List T3) (k w : Int) : (raiX l k w).length = l.length + 1 := by
  unfold raiX
  have : raiK l k ≤ l.length := (List.takeWhile_sublist _).length_le
  simp
  omega
theorem rai_mem (l : List T3) (k w : Int) : (k, w, 0) ∈ raiX l k w := by
  unfold raiX
  simp
theorem rai_must {l : List T3} {k w : Int} (h : ptB (raiX l k w) = true) : (mstL (raiX l k w) (3 - w)).contains k = true := by
  obtain ⟨h1, _, _⟩ := ptB_iff.1 h
  obtain ⟨i, hi, e⟩ := List.getElem_of_mem (rai_mem l k w)
  have hok := h1 i hi
  rw [e] at hok
  unfold ptOk at hok
  simp only [Bool.and_eq_true] at hok
  have hw := inrI hok.1.2
  unfold mstL
  rw [h, inrJ (a := 3 - w) (by omega) (by omega), Bool.and_self, if_pos rfl, List.contains_iff_mem, List.mem_map]
  refine ⟨(k, w, 0), List.mem_filter.2 ⟨rai_mem l k w, ?_⟩, rfl⟩
  unfold mstP
  simp
  omega
theorem set_none {l : List T3} (h : setP l = true) : ∀ p ∈ l, p.2.2 ≠ 0 ∧ p.2.2 ≠ 2 := by
  unfold setP at h
  simp only [Bool.and_eq_true, decide_eq_true_eq] at h
  obtain ⟨⟨hp, h1⟩, h2⟩ := h
  have hall := (ptB_iff.1 hp).1
  have hno : ∀ side, inr side 1 2 = true → (mstL l side).length = 0 → ∀ p ∈ l, mstP side p = false := fun side hs hl p hm => by
    unfold mstL at hl
    rw [hp, hs, Bool.and_self, if_pos rfl, List.length_map] at hl
    have := List.filter_eq_nil_iff.1 (List.eq_nil_of_length_eq_zero hl) p hm
    simpa using this
  intro p hm
  obtain ⟨i, hi, rfl⟩ := List.getElem_of_mem hm
  have hok := hall i hi
  unfold ptOk at hok
  simp only [Bool.and_eq_true] at hok
  have hw := inrI hok.1.2
  have a1 := hno 1 (by decide) h1 _ hm
  have a2 := hno 2 (by decide) h2 _ hm
  unfold mstP at a1 a2
  simp only [Bool.or_eq_false_iff, Bool.and_eq_false_iff, beq_eq_false_iff_ne, bne_eq_false_iff_eq] at a1 a2
  constructor
  · intro e
    rcases a1.1 with h | h
    · exact h e
    · rcases a2.1 with h' | h'
      · exact h' e
      · omega
  · intro e
    rcases a1.2 with h | h
    · exact h e
    · rcases a2.2 with h' | h'
      · exact h' e
      · omega
theorem wonP_le (side : Int) (p : T3) : -1 ≤ wonP side p ∧ wonP side p ≤ 1 := by
  unfold wonP
  split
  · split
    · omega
    · split <;> omega
  · omega
theorem won_from (side : Int) : ∀ (l : List T3) (n : Int), n - (l.length : Int) ≤ l.foldl (fun n p => n + wonP side p) n ∧ l.foldl (fun n p => n + wonP side p) n ≤ n + (l.length : Int)
  | [], n => by simp
  | p :: l, n => by
    have h := won_from side l (n + wonP side p)
    have := wonP_le side p
    rw [List.foldl_cons, List.length_cons]
    omega
theorem won_le (l : List T3) (side : Int) : -(l.length : Int) ≤ wonN l side ∧ wonN l side ≤ (l.length : Int) := by
  have := won_from side l 0
  unfold wonN
  omega
end Go.Proofs.Ythkigilegnjglaa

/- Words for slices of structs of three integers, over any program: their cells (t3s), what such a slice reads as, a row of them that the call made, append and a store into a field. No conditions but the machine's bound on bytes. -/
namespace Go.Proofs.Ythkigilegnjglaa
open Go.ChangeShapes Go.WideShapes Go.ChangeAt Go.RowKit
/-- The cells of a list of structs. -/
def t3s (X : List T3) : List Value := X.flatMap fun p => [.int .i64 p.1, .int .i64 p.2.1, .int .i64 p.2.2]
theorem t3s_cons (p : T3) (X : List T3) : t3s (p :: X) = .int .i64 p.1 :: .int .i64 p.2.1 :: .int .i64 p.2.2 :: t3s X := rfl
theorem t3s_app (X Y : List T3) : t3s (X ++ Y) = t3s X ++ t3s Y := by simp [t3s]
theorem t3s_len : ∀ X : List T3, (t3s X).length = X.length * 3
  | [] => rfl
  | p :: X => by rw [t3s_cons]; simp [t3s_len X]; omega
theorem t3s_get : ∀ (X : List T3) (k : Nat) (h : k < X.length), (t3s X)[k * 3]? = some (.int .i64 X[k].1) ∧ (t3s X)[k * 3 + 1]? = some (.int .i64 X[k].2.1) ∧ (t3s X)[k * 3 + 2]? = some (.int .i64 X[k].2.2)
  | p :: X, 0, _ => ⟨rfl, rfl, rfl⟩
  | p :: X, k + 1, h => by
    have := t3s_get X k (by simpa using h)
    rw [t3s_cons, show (k + 1) * 3 = k * 3 + 1 + 1 + 1 by omega]
    simpa using this
theorem t3s_one (X : List T3) : ∀ u ∈ t3s X, u.oneCell' = true := by
  intro u hu
  unfold t3s at hu
  obtain ⟨p, _, hp⟩ := List.mem_flatMap.1 hu
  simp at hp
  rcases hp with rfl | rfl | rfl <;> rfl
theorem t3s_take (X : List T3) (k : Nat) : (t3s X).take (k * 3) = t3s (X.take k) := by
  induction X generalizing k with
  | nil => simp [t3s]
  | cons p X ih =>
    cases k with
    | zero => rfl
    | succ k =>
      rw [t3s_cons, List.take_succ_cons, t3s_cons, show (k + 1) * 3 = k * 3 + 1 + 1 + 1 by omega, List.take_succ_cons, List.take_succ_cons, List.take_succ_cons, ih k]
theorem t3s_drop (X : List T3) (k : Nat) : (t3s X).drop (k * 3) = t3s (X.drop k) := by
  induction X generalizing k with
  | nil => simp [t3s]
  | cons p X ih =>
    cases k with
    | zero => rfl
    | succ k =>
      rw [t3s_cons, List.drop_succ_cons, show (k + 1) * 3 = k * 3 + 1 + 1 + 1 by omega, List.drop_succ_cons, List.drop_succ_cons, List.drop_succ_cons, ih k]
theorem t3_at {w : World} {B : Nat} {A : Option Addr} {X : List T3} (h : Rd w B A (t3s X)) {k : Nat} (hk : k < X.length) :
    ∃ ad, A = some ad ∧ ad.block < B ∧ w.cell? (ad.add (k * 3)) = some (.int .i64 X[k].1) ∧ w.cell? (ad.add (k * 3 + 1)) = some (.int .i64 X[k].2.1) ∧ w.cell? (ad.add (k * 3 + 2)) = some (.int .i64 X[k].2.2) := by
  obtain ⟨g0, g1, g2⟩ := t3s_get X k hk
  obtain ⟨ad, rfl, hb, h0⟩ := h _ _ g0
  obtain ⟨a1, e1, _, h1⟩ := h _ _ g1
  obtain ⟨a2, e2, _, h2⟩ := h _ _ g2
  injection e1 with e1
  injection e2 with e2
  subst e1 e2
  exact ⟨_, rfl, hb, h0, h1, h2⟩
theorem add_part (a : Addr) (k j : Nat) : a.add (k + (j + 1)) = ⟨(a.add k).block, (a.add k).off + (j + 1), none⟩ := by
  unfold Addr.add
  by_cases hk : k = 0 <;> simp [hk, Nat.add_assoc]
/-- The cells of element k, as the walk writes their addresses: p is the element's. -/
theorem t3_cells {w : World} {B : Nat} {A : Option Addr} {X : List T3} (h : Rd w B A (t3s X)) {k : Nat} (hk : k < X.length) :
    ∃ ad p, A = some ad ∧ ad.add (k * 3) = p ∧ p.block < B ∧ w.cell? p = some (.int .i64 X[k].1) ∧ w.cell? ⟨p.block, p.off + 1, none⟩ = some (.int .i64 X[k].2.1) ∧ w.cell? ⟨p.block, p.off + 2, none⟩ = some (.int .i64 X[k].2.2) := by
  obtain ⟨ad, rfl, hb, h0, h1, h2⟩ := t3_at h hk
  rw [add_part ad (k * 3) 0] at h1
  rw [add_part ad (k * 3) 1] at h2
  exact ⟨ad, _, rfl, rfl, by rw [add_blk]; exact hb, h0, h1, h2⟩
/-- A row of structs of type t that lies in one of the blocks lo to hi, written by nobody else. -/
def Row3 (w : World) (lo hi : Nat) (t : TypeId) (v : Value) (X : List T3) : Prop := w.ownsRow lo t 3 v X.length (t3s X) ∧ ∀ g, v.ownBlock = some g → g < hi
section
variable {w w' : World} {B lo hi lo' hi' : Nat} {t : TypeId} {v : Value} {X : List T3}
theorem Row3.keep (h : Row3 w lo hi t v X) (hk : ∀ b, lo ≤ b → b < hi → b < w.heap.size → w'.heap[b]? = w.heap[b]?) : Row3 w' lo hi t v X := by
  refine ⟨⟨h.1.1, ?_⟩, h.2⟩
  rcases h.1.2 with hn | ⟨g, cap, cur, rfl, hb, hgg, rest⟩
  · exact .inl hn
  · exact .inr ⟨g, cap, cur, rfl, hb, (hk g hb (h.2 g rfl) (Array.getElem?_eq_some_iff.1 hgg).1).trans hgg, rest⟩
theorem Row3.below (h : Row3 w lo hi t v X) (hb : Below B w w') (hB : hi ≤ B) : Row3 w' lo hi t v X := h.keep fun b _ h2 _ => hb.block b (by omega)
theorem Row3.new (h : Row3 w lo hi t v X) (hb : Below w.heap.size w w') : Row3 w' lo hi t v X := h.keep fun b _ _ h3 => hb.block b h3
theorem Row3.out (h : Row3 w lo hi t v X) (o : Out lo' hi' w w') (hd : hi ≤ lo' ∨ hi' ≤ lo) : Row3 w' lo hi t v X := h.keep fun b h1 h2 h3 => o.block b h3 (by omega)
theorem Row3.wide (h : Row3 w lo hi t v X) (h1 : lo' ≤ lo) (h2 : hi ≤ hi') : Row3 w lo' hi' t v X := by
  refine ⟨⟨h.1.1, ?_⟩, fun g hg => by have := h.2 g hg; omega⟩
  rcases h.1.2 with hn | ⟨g, cap, cur, e, hb, rest⟩
  · exact .inl hn
  · exact .inr ⟨g, cap, cur, e, by omega, rest⟩
theorem Row3.drewN (h : Row3 w lo hi t v X) (n : Nat) : Row3 (w.drewN n) lo hi t v X := h
theorem Row3.rd (h : Row3 w lo hi t v X) {n : Nat} (hn : X.length = n) : ∃ A c, v = .slice A n c ∧ Rd w hi A (t3s X) ∧ n ≤ c ∧ c ≤ maxLen := by
  subst hn
  rcases h.1.2 with ⟨rfl, hn⟩ | ⟨g, cap, cur, rfl, hb, hgg, hnc, hcm, hcs, htk⟩
  · have : X = [] := List.eq_nil_of_length_eq_zero hn
    subst this
    exact ⟨none, 0, rfl, Rd.nil, Nat.le_refl _, Nat.zero_le _⟩
  · refine ⟨some ⟨g, 0, none⟩, cap, rfl, fun j u hu => ⟨_, rfl, h.2 g rfl, ?_⟩, hnc, hcm⟩
    exact h.1.cells (g := g) rfl j u hu
theorem Row3.nil : Row3 w lo hi t (.slice none 0 0) [] := ⟨World.ownsRow_nil _ _ _ _, fun g hg => by simp [Value.ownBlock] at hg⟩
theorem Row3.rd' {n c : Nat} {A : Option Addr} (h : Row3 w lo hi t (.slice A n c) X) : Rd w hi A (t3s X) := by
  obtain ⟨A', c', h1, h2, _, _⟩ := h.rd (n := X.length) rfl
  injection h1 with e1 e2 e3
  subst e1
  exact h2
theorem Row3.base (h : Row3 w lo hi t v X) {n : Nat} (hn : X.length = n) (hp : 0 < n) : ∃ g c, v = .slice (some ⟨g, 0, none⟩) n c ∧ lo ≤ g ∧ g < hi ∧ g < w.heap.size ∧ n ≤ c ∧ c ≤ maxLen := by
  subst hn
  rcases h.1.2 with ⟨rfl, hn⟩ | ⟨g, cap, cur, rfl, hb, hgg, hnc, hcm, _⟩
  · omega
  · exact ⟨g, cap, rfl, hb, h.2 g rfl, (Array.getElem?_eq_some_iff.1 hgg).1, hnc, hcm⟩
theorem Row3.of_own {n : Nat} (h : w.ownsRow lo t 3 v n (t3s X)) : Row3 w lo w.heap.size t v X := by
  have hn : n = X.length := by have := h.1; rw [t3s_len] at this; omega
  subst hn
  exact ⟨h, fun g hg => (h.lt g hg).2⟩
theorem Row3.made (lo : Nat) (cs : Array Value) (n : Nat) (hlo : lo ≤ w.heap.size) (hX : cs.toList = t3s X) (hn : X.length = n) (hm : n ≤ maxLen) : Row3 (w.alloc (.cells cs t)) lo (w.heap.size + 1) t (.slice (some ⟨w.heap.size, 0, none⟩) n n) X := by
  subst hn
  have hl : cs.size = X.length * 3 := by rw [← t3s_len, ← hX]; simp
  refine ⟨⟨t3s_len X, .inr ⟨w.heap.size, X.length, cs, rfl, hlo, heap_alloc_new w _, Nat.le_refl _, hm, hl, ?_⟩⟩, fun g hg => ?_⟩
  · rw [hX, List.take_of_length_le (by rw [t3s_len]; exact Nat.le_refl _)]
  · simp [Value.ownBlock] at hg
    omega
/-- A store into field j of element i. -/
theorem Row3.set {g n c i : Nat} {u : Value} {Y : List T3} (h : Row3 w lo hi t (.slice (some ⟨g, 0, none⟩) n c) X) (hY : (t3s X).set i u = t3s Y) : Row3 (w.setCell ⟨g, i, none⟩ u) lo hi t (.slice (some ⟨g, 0, none⟩) n c) Y := by
  obtain ⟨⟨h1, h2⟩, h3⟩ := h
  have hl : X.length = Y.length := by
    have : ((t3s X).set i u).length = (t3s Y).length := by rw [hY]
    rw [List.length_set, t3s_len, t3s_len] at this
    omega
  rcases h2 with ⟨e, hn⟩ | ⟨g', cap, cur, e, hb, hgg, hnc, hcm, hcs, htk⟩
  · injection e with e1; cases e1
  · injection e with e1 e2 e3
    injection e1 with e1
    injection e1 with e1
    subst e1 e3
    have hst := (World.ownsRow.stored (w := w) (base := lo) (e := t) (size := 3) (g := g) (n := n) (cap := c) (xs := t3s X) (e2 ▸ ⟨h1, .inr ⟨g, c, cur, rfl, hb, hgg, hnc, hcm, hcs, htk⟩⟩) i u).1
    rw [hY] at hst
    refine ⟨?_, fun g' hg' => h3 g' hg'⟩
    rw [← hl]
    exact e2 ▸ hst
theorem Row3.froz {g n c i : Nat} (h : Row3 w lo hi t (.slice (some ⟨g, 0, none⟩) n c) X) : w.frozen? ⟨g, i, none⟩ = false := by
  obtain ⟨⟨h1, h2⟩, h3⟩ := h
  rcases h2 with ⟨e, hn⟩ | ⟨g', cap, cur, e, hb, hgg, _⟩
  · injection e with e1; cases e1
  · injection e with e1 e2 e3
    injection e1 with e1
    injection e1 with e1
    subst e1
    exact frozen_of_row w g i cur t hgg
end
section
variable {P : Program} {w : World}
theorem run_app3 (t ty e : TypeId) (i : TypeInfo) (z : Value) (bytes : Nat) (ht : P.underlying t = some (.slice e)) (hi : P.info? e = some i) (hz : i.zero = some z) (hsize : i.size = 3) (hby : i.bytes = bytes) (hzs : z.cells.size = 3)
    {lo hi' B m c : Nat} {v : Value} {X Y : List T3} {A : Option Addr} (hrow : Row3 w lo hi' e v X) (hm : Y.length = m) (hr : Rd w B A (t3s Y))
    (h63 : X.length + m ≤ maxLen) (hbytes : (X.length + m) * bytes ≤ 140737488355328) (hlo : lo ≤ w.heap.size) :
    ∃ v' w', (Builtin.append_ #[t, t] ty #[v, .slice A m c]).run P w = .ok v' w' ∧ Row3 w' lo w'.heap.size e v' (X ++ Y) ∧ Out lo hi' w w' := by
  rcases A with _ | ad
  · have hn : Y = [] := by
      cases Y with
      | nil => rfl
      | cons p Y => obtain ⟨ad, h, _⟩ := hr 0 _ rfl; cases h
    subst hn
    obtain rfl : m = 0 := hm.symm
    refine ⟨v, w, run_app_nil t ty e i ht hi hrow.1, ?_, Out.refl⟩
    rw [List.append_nil]
    exact ⟨hrow.1, fun g hg => (hrow.1.lt g hg).2⟩
  · have hcells : ∀ j u, (t3s Y)[j]? = some u → w.cell? (ad.add j) = some u := fun j u hu => by
      obtain ⟨ad', h, _, hc⟩ := hr j u hu
      injection h with h
      subst h
      exact hc
    obtain ⟨v', w', hrun, h2, h3, _, h5⟩ := run_append_own_at (P := P) w lo t ty e i z 3 bytes ht hi hz hsize hby hzs (by omega) v X.length (t3s X) hrow.1 ad m c (t3s Y) (by rw [t3s_len, hm]) hcells (t3s_one Y) h63 hbytes hlo
    rw [← t3s_app] at h2
    refine ⟨v', w', hrun, Row3.of_own h2, ⟨h3.os, h3.tape, h3.output, h3.size, fun k hk hne => h3.block k hk (fun e => ?_)⟩⟩
    have h6 := hrow.2 k e.symm
    have h7 := (hrow.1.lt k e.symm).1
    omega
theorem wpList_app3 {ops : Array Oper} {rest : List Oper} {o : Oper} {a : Act} {Q : Exit → Act → World → Prop} (hgd : o.guard = none) (s x : Operand) (t : TypeId)
    (ho : o.op = .call { callee := .builtin .append, args := #[s, x], argTypes := #[t, t] })
    (e : TypeId) (i : TypeInfo) (z : Value) (bytes : Nat) (ht : P.underlying t = some (.slice e)) (hi : P.info? e = some i) (hz : i.zero = some z) (hsize : i.size = 3) (hby : i.bytes = bytes) (hzs : z.cells.size = 3)
    {lo hi' B m c : Nat} {v : Value} {X Y : List T3} {A : Option Addr} (hs : a.eval s = v) (hx : a.eval x = .slice A m c) (hrow : Row3 w lo hi' e v X) (hm : Y.length = m) (hr : Rd w B A (t3s Y))
    (h63 : X.length + m ≤ maxLen) (hbytes : (X.length + m) * bytes ≤ 140737488355328) (hlo : lo ≤ w.heap.size)
    (K : ∀ v' w', Row3 w' lo w'.heap.size e v' (X ++ Y) → Out lo hi' w w' → wpList P ops Q rest (a.put o.dst v') w') : wpList P ops Q (o :: rest) a w := by
  obtain ⟨v', w', hrun, h2, h3⟩ := run_app3 (P := P) t o.type e i z bytes ht hi hz hsize hby hzs (c := c) hrow hm hr h63 hbytes hlo
  refine wpList_plain hgd fun K' hK' => ?_
  unfold Oper.wp
  simp [execOp, ho, resolve, invoke, builtin, hs, hx, hrun, Result.andThen]
  exact hK' _ _ (K v' w' h2 h3)
end
/-- The address of 's[k:]'. -/
def tlA3 (A : Option Addr) (k c : Nat) : Option Addr := if c = k then A else A.map (·.add (k * 3))
theorem Rd.tl3 {w : World} {B k c : Nat} {A : Option Addr} {X : List T3} (h : Rd w B A (t3s X)) (hc : X.length ≤ c) : Rd w B (tlA3 A k c) (t3s (X.drop k)) := fun j u hu => by
  unfold tlA3
  rw [← t3s_drop, List.getElem?_drop] at hu
  by_cases e : c = k
  · rw [List.getElem?_eq_none (by rw [t3s_len]; omega)] at hu; cases hu
  · obtain ⟨ad, rfl, hb, hc'⟩ := h _ u hu
    rw [if_neg e]
    refine ⟨ad.add (k * 3), rfl, by rw [add_blk]; exact hb, ?_⟩
    have e1 : (ad.add (k * 3)).add j = ad.add (k * 3 + j) := by
      unfold Addr.add
      by_cases hi : k * 3 = 0 <;> by_cases hj : j = 0 <;> simp [hi, hj, Nat.add_assoc]
    rw [e1]; exact hc'
theorem Rd.hd3 {w : World} {B k : Nat} {A : Option Addr} {X : List T3} (h : Rd w B A (t3s X)) : Rd w B A (t3s (X.take k)) := fun j u hu => by
  rw [← t3s_take, List.getElem?_take] at hu
  split at hu
  · exact h j u hu
  · cases hu
theorem run_from3 {P : Program} (W : World) (t e : TypeId) (ht : P.underlying t = some (.slice e)) (hz : ∀ w, (Go.sizeOf e).run P w = .ok 3 w) (A : Option Addr) {n c k : Nat} (h1 : k ≤ n) (_h2 : n ≤ c) :
    (Instr.slice t (.slice A n c) (some (.int .i64 (k : Int))) none none).run P W = .ok (.slice (tlA3 A k c) (n - k) (c - k)) W := by
  have ht' : P.underlying t = some (.slice (P.elem t)) := by simp [Program.elem, ht]
  have he : P.elem t = e := by simp [Program.elem, ht]
  rw [run_slice_l W t _ _ _ ht' .i64 _ (by omega) (by omega), he, hz]
  unfold tlA3
  by_cases h0 : c = k
  · simp [Result.andThen, sliced, h0]
  · simp [Result.andThen, sliced, h0]
theorem run_to3 {P : Program} (W : World) (t e : TypeId) (ht : P.underlying t = some (.slice e)) (hz : ∀ w, (Go.sizeOf e).run P w = .ok 3 w) (A : Option Addr) {n c k : Nat} (h1 : k ≤ c) :
    (Instr.slice t (.slice A n c) none (some (.int .i64 (k : Int))) none).run P W = .ok (.slice A k c) W := by
  have ht' : P.underlying t = some (.slice (P.elem t)) := by simp [Program.elem, ht]
  have he : P.elem t = e := by simp [Program.elem, ht]
  rw [run_slice_h W t _ _ _ ht' .i64 _ (by omega) (by omega), he, hz]
  by_cases h0 : c = 0
  · simp [Result.andThen, sliced, h0]
  · cases A <;> simp [Result.andThen, sliced, h0, Addr.add]
end Go.Proofs.Ythkigilegnjglaa

/- What an argument that is a slice of structs of three integers gives, over any program. No conditions. -/
namespace Go.Proofs.Ythkigilegnjglaa
open Go.ChangeShapes Go.WideShapes Go.ChangeAt Go.RowKit
theorem add_two (a : Addr) (j k : Nat) : (a.add j).add k = a.add (j + k) := by
  unfold Addr.add
  by_cases hj : j = 0 <;> by_cases hk : k = 0 <;> simp [hj, hk, Nat.add_assoc]
theorem list_of {α : Type} {p : Nat → α → Prop} : ∀ (n : Nat), (∀ i, i < n → ∃ x, p i x) → ∃ l : List α, l.length = n ∧ ∀ i (h : i < l.length), p i l[i]
  | 0, _ => ⟨[], rfl, fun i h => absurd h (Nat.not_lt_zero _)⟩
  | n + 1, h => by
    obtain ⟨l, hl, hp⟩ := list_of n fun i hi => h i (by omega)
    obtain ⟨x, hx⟩ := h n (by omega)
    refine ⟨l ++ [x], by simp [hl], fun i hi => ?_⟩
    by_cases hin : i < l.length
    · rw [List.getElem_append_left hin]; exact hp i hin
    · have : i = n := by simp at hi; omega
      subst this
      rw [List.getElem_append_right (by omega)]
      simpa using hx
theorem slice_open3 {H : Type} {enc : TypeId × Value → H} {P : Program} {W : World} {t e : TypeId} {f0 f1 f2 : Field} {v : Value} {d : DataW H} {p : List MemPlace} {base : Nat} (ht : P.underlying t = some (.slice e)) (he : P.underlying e = some (.struct #[f0, f1, f2])) (hc : P.cellsOf e = 3)
    (o0 : f0.offset = 0) (o1 : f1.offset = 1) (o2 : f2.offset = 2) (u0 : P.underlying f0.type = some (.int .i64)) (u1 : P.underlying f1.type = some (.int .i64)) (u2 : P.underlying f2.type = some (.int .i64))
    (c0 : P.cellsOf f0.type = 1) (c1 : P.cellsOf f1.type = 1) (c2 : P.cellsOf f2.type = 1)
    (hv : Value.okWide P W .any base t v) (h : DataW.Trod enc P W 0 (fun _ => true) true t v d p) :
    ∃ (A : Option Addr) (c : Nat) (X : List T3), v = .slice A X.length c ∧ Rd W W.heap.size A (t3s X) ∧ X.length ≤ c ∧ c ≤ maxLen ∧ ∀ x ∈ X, (IntKind.i64.min ≤ x.1 ∧ x.1 ≤ IntKind.i64.max) ∧ (IntKind.i64.min ≤ x.2.1 ∧ x.2.1 ≤ IntKind.i64.max) ∧ (IntKind.i64.min ≤ x.2.2 ∧ x.2.2 ≤ IntKind.i64.max) := by
  obtain ⟨A, n, c, rfl⟩ := okWide_slice ht hv
  obtain ⟨fuel, hf⟩ := h
  rcases Go.Deep.open_slice ht hf with ⟨e1, _⟩ | ⟨a, len, cap, m, k, D, Pl, e1, _, h1, h2, hm, _, hx⟩
  · simp [Value.cells] at e1
    obtain ⟨rfl, rfl, rfl⟩ := e1
    exact ⟨none, 0, [], rfl, Rd.nil, Nat.le_refl _, Nat.zero_le _, by simp⟩
  · simp [Value.cells] at e1
    obtain ⟨rfl, rfl, rfl⟩ := e1
    simp only [if_true] at hm
    have each : ∀ i, i < n → ∃ q : T3, W.cell? (a.add (i * 3)) = some (.int .i64 q.1) ∧ W.cell? (a.add (i * 3 + 1)) = some (.int .i64 q.2.1) ∧ W.cell? (a.add (i * 3 + 2)) = some (.int .i64 q.2.2) ∧ (IntKind.i64.min ≤ q.1 ∧ q.1 ≤ IntKind.i64.max) ∧ (IntKind.i64.min ≤ q.2.1 ∧ q.2.1 ≤ IntKind.i64.max) ∧ (IntKind.i64.min ≤ q.2.2 ∧ q.2.2 ≤ IntKind.i64.max) := by
      intro i hi
      obtain ⟨cs', k1, k2⟩ := hx i (by omega)
      rw [hc] at k1
      obtain ⟨_, hlen, hcell⟩ := World.cells?_some k1
      obtain ⟨xs, j, _, _, _, hxl, hf⟩ := DataW.trod_struct he k2
      match cs', hlen with
      | [v0, v1, v2], _ =>
        have e0 := hcell 0 (by omega)
        have e1 := hcell 1 (by omega)
        have e2 := hcell 2 (by omega)
        rw [add_two] at e0 e1 e2
        match xs, hxl with
        | [y0, y1, y2], _ =>
          have g0 := hf 0 f0 rfl
          have g1 := hf 1 f1 rfl
          have g2 := hf 2 f2 rfl
          simp [o0, o1, o2, c0, c1, c2] at g0 g1 g2
          obtain ⟨z0, q0, _, w0⟩ := DataW.trod_int u0 g0
          obtain ⟨z1, q1, _, w1⟩ := DataW.trod_int u1 g1
          obtain ⟨z2, q2, _, w2⟩ := DataW.trod_int u2 g2
          simp at q0 q1 q2
          subst q0 q1 q2
          exact ⟨(z0, z1, z2), by simpa using e0, by simpa using e1, by simpa using e2, by simpa [Lit.wf] using w0, by simpa [Lit.wf] using w1, by simpa [Lit.wf] using w2⟩
    obtain ⟨X, hX, hp⟩ := list_of n each
    subst hX
    refine ⟨some a, c, X, rfl, fun j u hu => ?_, h1, h2, fun x hx => ?_⟩
    · have hj : j < X.length * 3 := by
        rcases Nat.lt_or_ge j (X.length * 3) with h' | h'
        · exact h'
        · rw [List.getElem?_eq_none (by rw [t3s_len]; exact h')] at hu; cases hu
      have hk : j / 3 < X.length := by omega
      obtain ⟨g0, g1, g2⟩ := t3s_get X (j / 3) hk
      obtain ⟨p0, p1, p2, _⟩ := hp (j / 3) hk
      have hcu : W.cell? (a.add j) = some u := by
        have hj3 : j = j / 3 * 3 ∨ j = j / 3 * 3 + 1 ∨ j = j / 3 * 3 + 2 := by omega
        rcases hj3 with hj3 | hj3 | hj3
        · rw [hj3, g0] at hu
          rw [hj3, p0]
          exact hu
        · rw [hj3, g1] at hu
          rw [hj3, p1]
          exact hu
        · rw [hj3, g2] at hu
          rw [hj3, p2]
          exact hu
      refine ⟨a, rfl, ?_, hcu⟩
      have := cell_lt hcu
      rwa [add_blk] at this
    · obtain ⟨i, hi, rfl⟩ := List.getElem_of_mem hx
      exact (hp i hi).2.2.2
theorem struct_open3 {H : Type} {enc : TypeId × Value → H} {P : Program} {W : World} {t : TypeId} {f0 f1 f2 : Field} {v : Value} {d : DataW H} {p : List MemPlace} {base : Nat} (ht : P.underlying t = some (.struct #[f0, f1, f2])) (hone : Go.Deep.oneCellFields P #[f0, f1, f2] = true) (hc : P.cellsOf t = 3)
    (u0 : P.underlying f0.type = some (.int .i64)) (u1 : P.underlying f1.type = some (.int .i64)) (u2 : P.underlying f2.type = some (.int .i64))
    (hv : Value.okWide P W .any base t v) (h : DataW.Trod enc P W 0 (fun _ => true) true t v d p) :
    ∃ x : T3, v = .agg #[.int .i64 x.1, .int .i64 x.2.1, .int .i64 x.2.2] ∧ (IntKind.i64.min ≤ x.1 ∧ x.1 ≤ IntKind.i64.max) ∧ (IntKind.i64.min ≤ x.2.1 ∧ x.2.1 ≤ IntKind.i64.max) ∧ (IntKind.i64.min ≤ x.2.2 ∧ x.2.2 ≤ IntKind.i64.max) := by
  obtain ⟨v0, v1, v2, y0, y1, y2, n, rfl, _, _, g0, g1, g2⟩ := Go.Joins.open_agg3 ht hone hc hv h
  obtain ⟨z0, q0, _, w0⟩ := DataW.trod_int u0 g0
  obtain ⟨z1, q1, _, w1⟩ := DataW.trod_int u1 g1
  obtain ⟨z2, q2, _, w2⟩ := DataW.trod_int u2 g2
  simp at q0 q1 q2
  subst q0 q1 q2
  exact ⟨(z0, z1, z2), rfl, by simpa [Lit.wf] using w0, by simpa [Lit.wf] using w1, by simpa [Lit.wf] using w2⟩
end Go.Proofs.Ythkigilegnjglaa
