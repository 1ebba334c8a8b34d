/- Mathematics of mutual meetings: what the map says at the end is what the model asks (mu_iff). No conditions. -/
import Derived.Test.YthkigilegnjglaaMg8
import Derived.Test.YthkigilegnjglaaMg13
import Derived.Test.YthkigilegnjglaaMg1
import Derived.Test.YthkigilegnjglaaMg3
import Derived.Laws.Slices
import Derived.Deep.Slices
import Derived.Lib.SmallJoins
namespace Go.Proofs.Ythkigilegnjglaa
open Go.ChangeShapes Go.WideShapes Go.ChangeAt Go.RowKit
def evT (x : Tm) : List (Int × Int) := x.met.map fun q => (x.id, q)
def evs (X : List Tm) : List (Int × Int) := X.flatMap evT
theorem count_evT (x : Tm) (q : Int) : (evT x).count (x.id, q) = x.met.count q := by
  unfold evT
  induction x.met with
  | nil => rfl
  | cons y ys ih =>
    rw [List.map_cons, List.count_cons, List.count_cons, ih]
    by_cases h : y = q <;> simp [h]
theorem count_evT_ne {x : Tm} {p q : Int} (h : x.id ≠ p) : (evT x).count (p, q) = 0 := by
  rw [List.count_eq_zero]
  unfold evT
  intro hm
  obtain ⟨y, _, e⟩ := List.mem_map.1 hm
  exact h (congrArg Prod.fst e)
theorem count_none {X : List Tm} {p q : Int} (h : ∀ x ∈ X, x.id ≠ p) : (evs X).count (p, q) = 0 := by
  rw [List.count_eq_zero]
  unfold evs
  intro hm
  obtain ⟨x, hx, h2⟩ := List.mem_flatMap.1 hm
  unfold evT at h2
  obtain ⟨y, _, e⟩ := List.mem_map.1 h2
  exact h x hx (congrArg Prod.fst e)
theorem count_evs {X : List Tm} (hnd : (X.map Tm.id).Nodup) {x : Tm} (hx : x ∈ X) (q : Int) : (evs X).count (x.id, q) = x.met.count q := by
  induction X with
  | nil => cases hx
  | cons y ys ih =>
    rw [List.map_cons, List.nodup_cons] at hnd
    have e : evs (y :: ys) = evT y ++ evs ys := rfl
    rw [e, List.count_append]
    rcases List.mem_cons.1 hx with rfl | h
    · rw [count_evT, count_none (fun z hz e => hnd.1 (by rw [← e]; exact List.mem_map_of_mem hz))]
      omega
    · rw [count_evT_ne (fun e => hnd.1 (by rw [e]; exact List.mem_map_of_mem h)), ih hnd.2 h]
      omega
theorem asc_nodup {S : List Int} (h : ascB S = true) : S.Nodup := by
  rw [List.nodup_iff_pairwise_ne, List.pairwise_iff_getElem]
  intro i j hi hj hij e
  have := asc_lt h i j hj hij
  omega
/-- What the model asks of the meeting with m in the Met of the team at i. -/
def muAt (X : List Tm) (i : Nat) (m : Int) : Bool := match fndO X m with
  | none => false
  | some v => decide (v ≠ (i : Int)) && ((X.getD v.toNat tmD).met.count (X.getD i tmD).id == (X.getD i tmD).met.count (X.getD v.toNat tmD).id)
theorem fnd_asc {X : List Tm} (h : ascB (X.map Tm.id) = true) {j : Nat} (hj : j < X.length) : fndO X X[j].id = some (j : Int) := fndO_at hj fun k hk hkj e => by
  have := asc_lt h k j (by simpa using hj) hkj
  simp at this
  omega
theorem mu_iff {X : List Tm} (h : ascB (X.map Tm.id) = true) (hself : ∀ x ∈ X, x.id ∉ x.met) : (∀ e, (gE (evs X) e).isSome = false) ↔ ∀ i (hi : i < X.length), ∀ m ∈ X[i].met, muAt X i m = true := by
  have hnd := asc_nodup h
  have gd : ∀ {i : Nat} (hi : i < X.length), X.getD i tmD = X[i] := fun hi => by simp [List.getD, List.getElem?_eq_getElem hi]
  rw [gE_empty]
  constructor
  · intro hall i hi m hm
    have h1 := hall (X[i].id, m)
    rw [count_evs hnd (List.getElem_mem hi)] at h1
    have hpos : 0 < X[i].met.count m := List.count_pos_iff.2 hm
    unfold muAt
    cases hf : fndO X m with
    | none =>
      exfalso
      have := count_none (X := X) (q := X[i].id) (fndO_none hf)
      unfold swP at h1
      simp only at h1
      omega
    | some v =>
      obtain ⟨j, rfl, hj, hje, _⟩ := fndO_some hf
      have hne : j ≠ i := fun e => by subst e; exact hself _ (List.getElem_mem hj) (by rw [hje]; exact hm)
      have h2 := count_evs hnd (List.getElem_mem hj) X[i].id
      rw [hje] at h2
      unfold swP at h1
      simp only at h1
      rw [h2] at h1
      simp only [Int.toNat_natCast, gd hi, gd hj, hje]
      simp only [Bool.and_eq_true, decide_eq_true_eq, beq_iff_eq]
      exact ⟨by omega, h1.symm⟩
  · intro hall
    have key : ∀ p q, (evs X).count (p, q) ≠ 0 → (evs X).count (p, q) = (evs X).count (q, p) := fun p q hc => by
      have hin : (p, q) ∈ evs X := List.count_pos_iff.1 (Nat.pos_of_ne_zero hc)
      unfold evs at hin
      obtain ⟨x, hx, h2⟩ := List.mem_flatMap.1 hin
      unfold evT at h2
      obtain ⟨y, hy, e⟩ := List.mem_map.1 h2
      have e1 : x.id = p := congrArg Prod.fst e
      have e2 : y = q := congrArg Prod.snd e
      subst e1
      subst e2
      obtain ⟨i, hi, rfl⟩ := List.getElem_of_mem hx
      have h3 := hall i hi y hy
      unfold muAt at h3
      cases hf : fndO X y with
      | none => rw [hf] at h3; cases h3
      | some v =>
        obtain ⟨j, rfl, hj, hje, _⟩ := fndO_some hf
        rw [hf] at h3
        simp only [Int.toNat_natCast, gd hi, gd hj, Bool.and_eq_true, decide_eq_true_eq, beq_iff_eq] at h3
        have h4 := count_evs hnd (List.getElem_mem hj) X[i].id
        rw [hje] at h4 h3
        rw [count_evs hnd (List.getElem_mem hi), h4, h3.2]
    intro e
    by_cases h1 : (evs X).count e = 0
    · by_cases h2 : (evs X).count (swP e) = 0
      · rw [h1, h2]
      · exact (key e.2 e.1 h2).symm
    · exact key e.1 e.2 h1
/-- A team that met itself keeps the model from it. -/
theorem mu_self {X : List Tm} (h : ascB (X.map Tm.id) = true) {i : Nat} (hi : i < X.length) : muAt X i X[i].id = false := by
  unfold muAt
  rw [fnd_asc h hi]
  simp
end Go.Proofs.Ythkigilegnjglaa

/- Words for slices of structs of two integers, over any program: their cells (t2s), what such a slice reads as, a row of them that the call made, append and a store into a field. No conditions but the machine's bound on bytes. -/
namespace Go.Proofs.Ythkigilegnjglaa
open Go.ChangeShapes Go.WideShapes Go.ChangeAt Go.RowKit
/-- What a struct of two integers holds. -/
abbrev T2 := Int × Int
/-- The cells of a list of structs. -/
def t2s (X : List T2) : List Value := X.flatMap fun p => [.int .i64 p.1, .int .i64 p.2]
theorem t2s_cons (p : T2) (X : List T2) : t2s (p :: X) = .int .i64 p.1 :: .int .i64 p.2 :: t2s X := rfl
theorem t2s_app (X Y : List T2) : t2s (X ++ Y) = t2s X ++ t2s Y := by simp [t2s]
theorem t2s_len : ∀ X : List T2, (t2s X).length = X.length * 2
  | [] => rfl
  | p :: X => by rw [t2s_cons]; simp [t2s_len X]; omega
theorem t2s_get : ∀ (X : List T2) (k : Nat) (h : k < X.length), (t2s X)[k * 2]? = some (.int .i64 X[k].1) ∧ (t2s X)[k * 2 + 1]? = some (.int .i64 X[k].2)
  | p :: X, 0, _ => ⟨rfl, rfl⟩
  | p :: X, k + 1, h => by
    have := t2s_get X k (by simpa using h)
    rw [t2s_cons, show (k + 1) * 2 = k * 2 + 1 + 1 by omega]
    simpa using this
theorem t2s_one (X : List T2) : ∀ u ∈ t2s X, u.oneCell' = true := by
  intro u hu
  unfold t2s at hu
  obtain ⟨p, _, hp⟩ := List.mem_flatMap.1 hu
  simp at hp
  rcases hp with rfl | rfl <;> rfl
theorem t2s_take (X : List T2) (k : Nat) : (t2s X).take (k * 2) = t2s (X.take k) := by
  induction X generalizing k with
  | nil => simp [t2s]
  | cons p X ih =>
    cases k with
    | zero => rfl
    | succ k =>
      rw [t2s_cons, List.take_succ_cons, t2s_cons, show (k + 1) * 2 = k * 2 + 1 + 1 by omega, List.take_succ_cons, List.take_succ_cons, ih k]
theorem t2s_drop (X : List T2) (k : Nat) : (t2s X).drop (k * 2) = t2s (X.drop k) := by
  induction X generalizing k with
  | nil => simp [t2s]
  | cons p X ih =>
    cases k with
    | zero => rfl
    | succ k =>
      rw [t2s_cons, List.drop_succ_cons, show (k + 1) * 2 = k * 2 + 1 + 1 by omega, List.drop_succ_cons, List.drop_succ_cons, ih k]
theorem t2_at {w : World} {B : Nat} {A : Option Addr} {X : List T2} (h : Rd w B A (t2s X)) {k : Nat} (hk : k < X.length) :
    ∃ ad, A = some ad ∧ ad.block < B ∧ w.cell? (ad.add (k * 2)) = some (.int .i64 X[k].1) ∧ w.cell? (ad.add (k * 2 + 1)) = some (.int .i64 X[k].2) := by
  obtain ⟨g0, g1⟩ := t2s_get X k hk
  obtain ⟨ad, rfl, hb, h0⟩ := h _ _ g0
  obtain ⟨a1, e1, _, h1⟩ := h _ _ g1
  injection e1 with e1
  subst e1
  exact ⟨_, rfl, hb, h0, h1⟩
/-- The cells of element k, as the walk writes their addresses: p is the element's. -/
theorem t2_cells {w : World} {B : Nat} {A : Option Addr} {X : List T2} (h : Rd w B A (t2s X)) {k : Nat} (hk : k < X.length) :
    ∃ ad p, A = some ad ∧ ad.add (k * 2) = p ∧ p.block < B ∧ w.cell? p = some (.int .i64 X[k].1) ∧ w.cell? ⟨p.block, p.off + 1, none⟩ = some (.int .i64 X[k].2) := by
  obtain ⟨ad, rfl, hb, h0, h1⟩ := t2_at h hk
  rw [add_part ad (k * 2) 0] at h1
  exact ⟨ad, _, rfl, rfl, by rw [add_blk]; exact hb, h0, h1⟩
/-- A row of structs of type t that lies in one of the blocks lo to hi, written by nobody else. -/
def Row2 (w : World) (lo hi : Nat) (t : TypeId) (v : Value) (X : List T2) : Prop := w.ownsRow lo t 2 v X.length (t2s X) ∧ ∀ g, v.ownBlock = some g → g < hi
section
variable {w w' : World} {B lo hi lo' hi' : Nat} {t : TypeId} {v : Value} {X : List T2}
theorem Row2.keep (h : Row2 w lo hi t v X) (hk : ∀ b, lo ≤ b → b < hi → b < w.heap.size → w'.heap[b]? = w.heap[b]?) : Row2 w' lo hi t v X := by
  refine ⟨⟨h.1.1, ?_⟩, h.2⟩
  rcases h.1.2 with hn | ⟨g, cap, cur, rfl, hb, hgg, rest⟩
  · exact .inl hn
  · exact .inr ⟨g, cap, cur, rfl, hb, (hk g hb (h.2 g rfl) (Array.getElem?_eq_some_iff.1 hgg).1).trans hgg, rest⟩
theorem Row2.below (h : Row2 w lo hi t v X) (hb : Below B w w') (hB : hi ≤ B) : Row2 w' lo hi t v X := h.keep fun b _ h2 _ => hb.block b (by omega)
theorem Row2.new (h : Row2 w lo hi t v X) (hb : Below w.heap.size w w') : Row2 w' lo hi t v X := h.keep fun b _ _ h3 => hb.block b h3
theorem Row2.out (h : Row2 w lo hi t v X) (o : Out lo' hi' w w') (hd : hi ≤ lo' ∨ hi' ≤ lo) : Row2 w' lo hi t v X := h.keep fun b h1 h2 h3 => o.block b h3 (by omega)
theorem Row2.wide (h : Row2 w lo hi t v X) (h1 : lo' ≤ lo) (h2 : hi ≤ hi') : Row2 w lo' hi' t v X := by
  refine ⟨⟨h.1.1, ?_⟩, fun g hg => by have := h.2 g hg; omega⟩
  rcases h.1.2 with hn | ⟨g, cap, cur, e, hb, rest⟩
  · exact .inl hn
  · exact .inr ⟨g, cap, cur, e, by omega, rest⟩
theorem Row2.drewN (h : Row2 w lo hi t v X) (n : Nat) : Row2 (w.drewN n) lo hi t v X := h
theorem Row2.rd (h : Row2 w lo hi t v X) {n : Nat} (hn : X.length = n) : ∃ A c, v = .slice A n c ∧ Rd w hi A (t2s X) ∧ n ≤ c ∧ c ≤ maxLen := by
  subst hn
  rcases h.1.2 with ⟨rfl, hn⟩ | ⟨g, cap, cur, rfl, hb, hgg, hnc, hcm, hcs, htk⟩
  · have : X = [] := List.eq_nil_of_length_eq_zero hn
    subst this
    exact ⟨none, 0, rfl, Rd.nil, Nat.le_refl _, Nat.zero_le _⟩
  · refine ⟨some ⟨g, 0, none⟩, cap, rfl, fun j u hu => ⟨_, rfl, h.2 g rfl, ?_⟩, hnc, hcm⟩
    exact h.1.cells (g := g) rfl j u hu
theorem Row2.nil : Row2 w lo hi t (.slice none 0 0) [] := ⟨World.ownsRow_nil _ _ _ _, fun g hg => by simp [Value.ownBlock] at hg⟩
theorem Row2.rd' {n c : Nat} {A : Option Addr} (h : Row2 w lo hi t (.slice A n c) X) : Rd w hi A (t2s X) := by
  obtain ⟨A', c', h1, h2, _, _⟩ := h.rd (n := X.length) rfl
  injection h1 with e1 e2 e3
  subst e1
  exact h2
theorem Row2.base (h : Row2 w lo hi t v X) {n : Nat} (hn : X.length = n) (hp : 0 < n) : ∃ g c, v = .slice (some ⟨g, 0, none⟩) n c ∧ lo ≤ g ∧ g < hi ∧ g < w.heap.size ∧ n ≤ c ∧ c ≤ maxLen := by
  subst hn
  rcases h.1.2 with ⟨rfl, hn⟩ | ⟨g, cap, cur, rfl, hb, hgg, hnc, hcm, _⟩
  · omega
  · exact ⟨g, cap, rfl, hb, h.2 g rfl, (Array.getElem?_eq_some_iff.1 hgg).1, hnc, hcm⟩
theorem Row2.of_own {n : Nat} (h : w.ownsRow lo t 2 v n (t2s X)) : Row2 w lo w.heap.size t v X := by
  have hn : n = X.length := by have := h.1; rw [t2s_len] at this; omega
  subst hn
  exact ⟨h, fun g hg => (h.lt g hg).2⟩
theorem Row2.made (lo : Nat) (cs : Array Value) (n : Nat) (hlo : lo ≤ w.heap.size) (hX : cs.toList = t2s X) (hn : X.length = n) (hm : n ≤ maxLen) : Row2 (w.alloc (.cells cs t)) lo (w.heap.size + 1) t (.slice (some ⟨w.heap.size, 0, none⟩) n n) X := by
  subst hn
  have hl : cs.size = X.length * 2 := by rw [← t2s_len, ← hX]; simp
  refine ⟨⟨t2s_len X, .inr ⟨w.heap.size, X.length, cs, rfl, hlo, heap_alloc_new w _, Nat.le_refl _, hm, hl, ?_⟩⟩, fun g hg => ?_⟩
  · rw [hX, List.take_of_length_le (by rw [t2s_len]; exact Nat.le_refl _)]
  · simp [Value.ownBlock] at hg
    omega
/-- A store into field j of element i. -/
theorem Row2.set {g n c i : Nat} {u : Value} {Y : List T2} (h : Row2 w lo hi t (.slice (some ⟨g, 0, none⟩) n c) X) (hY : (t2s X).set i u = t2s Y) : Row2 (w.setCell ⟨g, i, none⟩ u) lo hi t (.slice (some ⟨g, 0, none⟩) n c) Y := by
  obtain ⟨⟨h1, h2⟩, h3⟩ := h
  have hl : X.length = Y.length := by
    have : ((t2s X).set i u).length = (t2s Y).length := by rw [hY]
    rw [List.length_set, t2s_len, t2s_len] at this
    omega
  rcases h2 with ⟨e, hn⟩ | ⟨g', cap, cur, e, hb, hgg, hnc, hcm, hcs, htk⟩
  · injection e with e1; cases e1
  · injection e with e1 e2 e3
    injection e1 with e1
    injection e1 with e1
    subst e1 e3
    have hst := (World.ownsRow.stored (w := w) (base := lo) (e := t) (size := 2) (g := g) (n := n) (cap := c) (xs := t2s X) (e2 ▸ ⟨h1, .inr ⟨g, c, cur, rfl, hb, hgg, hnc, hcm, hcs, htk⟩⟩) i u).1
    rw [hY] at hst
    refine ⟨?_, fun g' hg' => h3 g' hg'⟩
    rw [← hl]
    exact e2 ▸ hst
theorem Row2.froz {g n c i : Nat} (h : Row2 w lo hi t (.slice (some ⟨g, 0, none⟩) n c) X) : w.frozen? ⟨g, i, none⟩ = false := by
  obtain ⟨⟨h1, h2⟩, h3⟩ := h
  rcases h2 with ⟨e, hn⟩ | ⟨g', cap, cur, e, hb, hgg, _⟩
  · injection e with e1; cases e1
  · injection e with e1 e2 e3
    injection e1 with e1
    injection e1 with e1
    subst e1
    exact frozen_of_row w g i cur t hgg
end
section
variable {P : Program} {w : World}
theorem run_app2 (t ty e : TypeId) (i : TypeInfo) (z : Value) (bytes : Nat) (ht : P.underlying t = some (.slice e)) (hi : P.info? e = some i) (hz : i.zero = some z) (hsize : i.size = 2) (hby : i.bytes = bytes) (hzs : z.cells.size = 2)
    {lo hi' B m c : Nat} {v : Value} {X Y : List T2} {A : Option Addr} (hrow : Row2 w lo hi' e v X) (hm : Y.length = m) (hr : Rd w B A (t2s Y))
    (h63 : X.length + m ≤ maxLen) (hbytes : (X.length + m) * bytes ≤ 140737488355328) (hlo : lo ≤ w.heap.size) :
    ∃ v' w', (Builtin.append_ #[t, t] ty #[v, .slice A m c]).run P w = .ok v' w' ∧ Row2 w' lo w'.heap.size e v' (X ++ Y) ∧ Out lo hi' w w' := by
  rcases A with _ | ad
  · have hn : Y = [] := by
      cases Y with
      | nil => rfl
      | cons p Y => obtain ⟨ad, h, _⟩ := hr 0 _ rfl; cases h
    subst hn
    obtain rfl : m = 0 := hm.symm
    refine ⟨v, w, run_app_nil t ty e i ht hi hrow.1, ?_, Out.refl⟩
    rw [List.append_nil]
    exact ⟨hrow.1, fun g hg => (hrow.1.lt g hg).2⟩
  · have hcells : ∀ j u, (t2s Y)[j]? = some u → w.cell? (ad.add j) = some u := fun j u hu => by
      obtain ⟨ad', h, _, hc⟩ := hr j u hu
      injection h with h
      subst h
      exact hc
    obtain ⟨v', w', hrun, h2, h3, _, h5⟩ := run_append_own_at (P := P) w lo t ty e i z 2 bytes ht hi hz hsize hby hzs (by omega) v X.length (t2s X) hrow.1 ad m c (t2s Y) (by rw [t2s_len, hm]) hcells (t2s_one Y) h63 hbytes hlo
    rw [← t2s_app] at h2
    refine ⟨v', w', hrun, Row2.of_own h2, ⟨h3.os, h3.tape, h3.output, h3.size, fun k hk hne => h3.block k hk (fun e => ?_)⟩⟩
    have h6 := hrow.2 k e.symm
    have h7 := (hrow.1.lt k e.symm).1
    omega
theorem wpList_app2s {ops : Array Oper} {rest : List Oper} {o : Oper} {a : Act} {Q : Exit → Act → World → Prop} (hgd : o.guard = none) (s x : Operand) (t : TypeId)
    (ho : o.op = .call { callee := .builtin .append, args := #[s, x], argTypes := #[t, t] })
    (e : TypeId) (i : TypeInfo) (z : Value) (bytes : Nat) (ht : P.underlying t = some (.slice e)) (hi : P.info? e = some i) (hz : i.zero = some z) (hsize : i.size = 2) (hby : i.bytes = bytes) (hzs : z.cells.size = 2)
    {lo hi' B m c : Nat} {v : Value} {X Y : List T2} {A : Option Addr} (hs : a.eval s = v) (hx : a.eval x = .slice A m c) (hrow : Row2 w lo hi' e v X) (hm : Y.length = m) (hr : Rd w B A (t2s Y))
    (h63 : X.length + m ≤ maxLen) (hbytes : (X.length + m) * bytes ≤ 140737488355328) (hlo : lo ≤ w.heap.size)
    (K : ∀ v' w', Row2 w' lo w'.heap.size e v' (X ++ Y) → Out lo hi' w w' → wpList P ops Q rest (a.put o.dst v') w') : wpList P ops Q (o :: rest) a w := by
  obtain ⟨v', w', hrun, h2, h3⟩ := run_app2 (P := P) t o.type e i z bytes ht hi hz hsize hby hzs (c := c) hrow hm hr h63 hbytes hlo
  refine wpList_plain hgd fun K' hK' => ?_
  unfold Oper.wp
  simp [execOp, ho, resolve, invoke, builtin, hs, hx, hrun, Result.andThen]
  exact hK' _ _ (K v' w' h2 h3)
end
/-- The address of 's[k:]'. -/
def tlA2 (A : Option Addr) (k c : Nat) : Option Addr := if c = k then A else A.map (·.add (k * 2))
theorem Rd.tl2 {w : World} {B k c : Nat} {A : Option Addr} {X : List T2} (h : Rd w B A (t2s X)) (hc : X.length ≤ c) : Rd w B (tlA2 A k c) (t2s (X.drop k)) := fun j u hu => by
  unfold tlA2
  rw [← t2s_drop, List.getElem?_drop] at hu
  by_cases e : c = k
  · rw [List.getElem?_eq_none (by rw [t2s_len]; omega)] at hu; cases hu
  · obtain ⟨ad, rfl, hb, hc'⟩ := h _ u hu
    rw [if_neg e]
    refine ⟨ad.add (k * 2), rfl, by rw [add_blk]; exact hb, ?_⟩
    have e1 : (ad.add (k * 2)).add j = ad.add (k * 2 + j) := by
      unfold Addr.add
      by_cases hi : k * 2 = 0 <;> by_cases hj : j = 0 <;> simp [hi, hj, Nat.add_assoc]
    rw [e1]; exact hc'
theorem Rd.hd2 {w : World} {B k : Nat} {A : Option Addr} {X : List T2} (h : Rd w B A (t2s X)) : Rd w B A (t2s (X.take k)) := fun j u hu => by
  rw [← t2s_take, List.getElem?_take] at hu
  split at hu
  · exact h j u hu
  · cases hu
theorem run_from2 {P : Program} (W : World) (t e : TypeId) (ht : P.underlying t = some (.slice e)) (hz : ∀ w, (Go.sizeOf e).run P w = .ok 2 w) (A : Option Addr) {n c k : Nat} (h1 : k ≤ n) (_h2 : n ≤ c) :
    (Instr.slice t (.slice A n c) (some (.int .i64 (k : Int))) none none).run P W = .ok (.slice (tlA2 A k c) (n - k) (c - k)) W := by
  have ht' : P.underlying t = some (.slice (P.elem t)) := by simp [Program.elem, ht]
  have he : P.elem t = e := by simp [Program.elem, ht]
  rw [run_slice_l W t _ _ _ ht' .i64 _ (by omega) (by omega), he, hz]
  unfold tlA2
  by_cases h0 : c = k
  · simp [Result.andThen, sliced, h0]
  · simp [Result.andThen, sliced, h0]
theorem run_to2 {P : Program} (W : World) (t e : TypeId) (ht : P.underlying t = some (.slice e)) (hz : ∀ w, (Go.sizeOf e).run P w = .ok 2 w) (A : Option Addr) {n c k : Nat} (h1 : k ≤ c) :
    (Instr.slice t (.slice A n c) none (some (.int .i64 (k : Int))) none).run P W = .ok (.slice A k c) W := by
  have ht' : P.underlying t = some (.slice (P.elem t)) := by simp [Program.elem, ht]
  have he : P.elem t = e := by simp [Program.elem, ht]
  rw [run_slice_h W t _ _ _ ht' .i64 _ (by omega) (by omega), he, hz]
  by_cases h0 : c = 0
  · simp [Result.andThen, sliced, h0]
  · cases A <;> simp [Result.andThen, sliced, h0, Addr.add]
end Go.Proofs.Ythkigilegnjglaa

/- What an argument that is a slice of structs of two integers gives, over any program. No conditions. -/
namespace Go.Proofs.Ythkigilegnjglaa
open Go.ChangeShapes Go.WideShapes Go.ChangeAt Go.RowKit
theorem slice_open2 {H : Type} {enc : TypeId × Value → H} {P : Program} {W : World} {t e : TypeId} {f0 f1 : Field} {v : Value} {d : DataW H} {p : List MemPlace} {base : Nat} (ht : P.underlying t = some (.slice e)) (he : P.underlying e = some (.struct #[f0, f1])) (hc : P.cellsOf e = 2)
    (o0 : f0.offset = 0) (o1 : f1.offset = 1) (u0 : P.underlying f0.type = some (.int .i64)) (u1 : P.underlying f1.type = some (.int .i64))
    (c0 : P.cellsOf f0.type = 1) (c1 : P.cellsOf f1.type = 1)
    (hv : Value.okWide P W .any base t v) (h : DataW.Trod enc P W 0 (fun _ => true) true t v d p) :
    ∃ (A : Option Addr) (c : Nat) (X : List T2), v = .slice A X.length c ∧ Rd W W.heap.size A (t2s X) ∧ X.length ≤ c ∧ c ≤ maxLen ∧ ∀ x ∈ X, (IntKind.i64.min ≤ x.1 ∧ x.1 ≤ IntKind.i64.max) ∧ (IntKind.i64.min ≤ x.2 ∧ x.2 ≤ IntKind.i64.max) := by
  obtain ⟨A, n, c, rfl⟩ := okWide_slice ht hv
  obtain ⟨fuel, hf⟩ := h
  rcases Go.Deep.open_slice ht hf with ⟨e1, _⟩ | ⟨a, len, cap, m, k, D, Pl, e1, _, h1, h2, hm, _, hx⟩
  · simp [Value.cells] at e1
    obtain ⟨rfl, rfl, rfl⟩ := e1
    exact ⟨none, 0, [], rfl, Rd.nil, Nat.le_refl _, Nat.zero_le _, by simp⟩
  · simp [Value.cells] at e1
    obtain ⟨rfl, rfl, rfl⟩ := e1
    simp only [if_true] at hm
    have each : ∀ i, i < n → ∃ q : T2, W.cell? (a.add (i * 2)) = some (.int .i64 q.1) ∧ W.cell? (a.add (i * 2 + 1)) = some (.int .i64 q.2) ∧ (IntKind.i64.min ≤ q.1 ∧ q.1 ≤ IntKind.i64.max) ∧ (IntKind.i64.min ≤ q.2 ∧ q.2 ≤ IntKind.i64.max) := by
      intro i hi
      obtain ⟨cs', k1, k2⟩ := hx i (by omega)
      rw [hc] at k1
      obtain ⟨_, hlen, hcell⟩ := World.cells?_some k1
      obtain ⟨xs, j, _, _, _, hxl, hf⟩ := DataW.trod_struct he k2
      match cs', hlen with
      | [v0, v1], _ =>
        have e0 := hcell 0 (by omega)
        have e1 := hcell 1 (by omega)
        rw [add_two] at e0 e1
        match xs, hxl with
        | [y0, y1], _ =>
          have g0 := hf 0 f0 rfl
          have g1 := hf 1 f1 rfl
          simp [o0, o1, c0, c1] at g0 g1
          obtain ⟨z0, q0, _, w0⟩ := DataW.trod_int u0 g0
          obtain ⟨z1, q1, _, w1⟩ := DataW.trod_int u1 g1
          simp at q0 q1
          subst q0 q1
          exact ⟨(z0, z1), by simpa using e0, by simpa using e1, by simpa [Lit.wf] using w0, by simpa [Lit.wf] using w1⟩
    obtain ⟨X, hX, hp⟩ := list_of n each
    subst hX
    refine ⟨some a, c, X, rfl, fun j u hu => ?_, h1, h2, fun x hx => ?_⟩
    · have hj : j < X.length * 2 := by
        rcases Nat.lt_or_ge j (X.length * 2) with h' | h'
        · exact h'
        · rw [List.getElem?_eq_none (by rw [t2s_len]; exact h')] at hu; cases hu
      have hk : j / 2 < X.length := by omega
      obtain ⟨g0, g1⟩ := t2s_get X (j / 2) hk
      obtain ⟨p0, p1, _⟩ := hp (j / 2) hk
      have hcu : W.cell? (a.add j) = some u := by
        have hj3 : j = j / 2 * 2 ∨ j = j / 2 * 2 + 1 := by omega
        rcases hj3 with hj3 | hj3
        · rw [hj3, g0] at hu
          rw [hj3, p0]
          exact hu
        · rw [hj3, g1] at hu
          rw [hj3, p1]
          exact hu
      refine ⟨a, rfl, ?_, hcu⟩
      have := cell_lt hcu
      rwa [add_blk] at this
    · obtain ⟨i, hi, rfl⟩ := List.getElem_of_mem hx
      exact (hp i hi).2.2
theorem struct_open2 {H : Type} {enc : TypeId × Value → H} {P : Program} {W : World} {t : TypeId} {f0 f1 : Field} {v : Value} {d : DataW H} {p : List MemPlace} {base : Nat} (ht : P.underlying t = some (.struct #[f0, f1])) (hone : Go.Deep.oneCellFields P #[f0, f1] = true) (hc : P.cellsOf t = 2)
    (u0 : P.underlying f0.type = some (.int .i64)) (u1 : P.underlying f1.type = some (.int .i64))
    (hv : Value.okWide P W .any base t v) (h : DataW.Trod enc P W 0 (fun _ => true) true t v d p) :
    ∃ x : T2, v = .agg #[.int .i64 x.1, .int .i64 x.2] ∧ (IntKind.i64.min ≤ x.1 ∧ x.1 ≤ IntKind.i64.max) ∧ (IntKind.i64.min ≤ x.2 ∧ x.2 ≤ IntKind.i64.max) := by
  obtain ⟨v0, v1, y0, y1, n, rfl, _, _, g0, g1⟩ := Go.Joins.open_agg2 ht hone hc hv h
  obtain ⟨z0, q0, _, w0⟩ := DataW.trod_int u0 g0
  obtain ⟨z1, q1, _, w1⟩ := DataW.trod_int u1 g1
  simp at q0 q1
  subst q0 q1
  exact ⟨(z0, z1), rfl, by simpa [Lit.wf] using w0, by simpa [Lit.wf] using w1⟩
end Go.Proofs.Ythkigilegnjglaa
