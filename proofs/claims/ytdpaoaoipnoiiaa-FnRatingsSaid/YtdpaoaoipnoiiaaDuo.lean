/- Two rows of ints that a loop makes grow side by side. No conditions. -/
import Derived.Test.YtdpaoaoipnoiiaaMg2
import Derived.Test.YtdpaoaoipnoiiaaIntS
import Derived.Test.YtdpaoaoipnoiiaaMg3
namespace Go.Proofs.Ytdpaoaoipnoiiaa
open Go.ChangeShapes Go.WideShapes Go.ChangeAt Go.RowKit
set_option maxRecDepth 100000
theorem Row.keep1 {w w' : World} {lo hi : Nat} {t : TypeId} {v : Value} {xs : List Value} (h : Row w lo hi t v xs) (hk : ∀ g, v.ownBlock = some g → g < w.heap.size → w'.heap[g]? = w.heap[g]?) : Row w' lo hi t v xs := by
  refine ⟨⟨h.1.1, ?_⟩, h.2⟩
  rcases h.1.2 with hn | ⟨g, cap, cur, rfl, hb, hgg, rest⟩
  · exact .inl hn
  · exact .inr ⟨g, cap, cur, rfl, hb, (hk g rfl (Array.getElem?_eq_some_iff.1 hgg).1).trans hgg, rest⟩
/-- One element is appended: which block alone may turn, and which block the row then has. -/
theorem wpList_appD {P : Program} {w : World} {ops : Array Oper} {rest : List Oper} {o : Oper} {a : Act} {Q : Exit → Act → World → Prop} (hgd : o.guard = none) (s x : Operand) (t : TypeId)
    (ho : o.op = .call { callee := .builtin .append, args := #[s, x], argTypes := #[t, t] })
    (e : TypeId) (i : TypeInfo) (z : Value) (bytes : Nat) (ht : P.underlying t = some (.slice e)) (hi : P.info? e = some i) (hz : i.zero = some z) (hsize : i.size = 1) (hby : i.bytes = bytes) (hzs : z.cells.size = 1)
    {lo hi' B m c : Nat} {v : Value} {xs news : List Value} {ad : Addr} (hs : a.eval s = v) (hx : a.eval x = .slice (some ad) m c) (hrow : Row w lo hi' e v xs) (hm : news.length = m) (hr : Rd w B (some ad) news) (h1 : ∀ u ∈ news, u.oneCell' = true)
    (h63 : xs.length + m ≤ maxLen) (hbytes : (xs.length + m) * bytes ≤ 140737488355328) (hlo : lo ≤ w.heap.size)
    (K : ∀ v' w', Row w' lo w'.heap.size e v' (xs ++ news) → w.heap.size ≤ w'.heap.size → Below lo w w' → (∀ b, b < w.heap.size → v.ownBlock ≠ some b → w'.heap[b]? = w.heap[b]?) → (∀ b, v'.ownBlock = some b → v.ownBlock = some b ∨ b = w.heap.size) → wpList P ops Q rest (a.put o.dst v') w') : wpList P ops Q (o :: rest) a w := by
  obtain ⟨v', w', hrun, h2, h3⟩ := run_app (P := P) t o.type e i z bytes ht hi hz hsize hby hzs (c := c) hrow hm hr h1 h63 hbytes hlo
  obtain ⟨v2, w2, hrun2, _, b2, _, b4⟩ := run_append_own_at (P := P) w lo t o.type e i z 1 bytes ht hi hz hsize hby hzs (by omega) v xs.length xs hrow.1 ad m c news (by omega) (fun j u hu => by
    obtain ⟨ad', e1, _, hc⟩ := hr j u hu
    injection e1 with e1
    subst e1
    exact hc) h1 h63 hbytes hlo
  rw [hrun] at hrun2
  injection hrun2 with e1 e2
  subst e1
  subst e2
  refine wpList_plain hgd fun K' hK' => ?_
  unfold Oper.wp
  simp [execOp, ho, resolve, invoke, builtin, hs, hx, hrun, Result.andThen]
  refine hK' _ _ (K v' w' h2 b2.size ?_ (fun b hb hv => b2.block b hb (fun e => hv e.symm)) (fun b hb => ?_))
  · exact (Below.refl lo w).grown b2 hlo (fun k hk => by
      rcases hrow.1.2 with ⟨rfl, _⟩ | ⟨g, cap, cur, rfl, hg, _⟩
      · simp [Value.ownBlock] at hk
      · have : g = k := by simpa [Value.ownBlock] using hk
        omega)
  · rcases b4 with b4 | b4
    · exact .inl (b4 ▸ hb)
    · rw [b4] at hb
      injection hb with hb
      exact .inr hb.symm
/-- Two rows in blocks of their own from lo on. -/
structure Duo (w : World) (lo : Nat) (a b : Value) (X Y : List Int) : Prop where
  ra : Row w lo w.heap.size 3 a (ivs X)
  rb : Row w lo w.heap.size 3 b (ivs Y)
  ne : ∀ g, a.ownBlock = some g → b.ownBlock ≠ some g
section
variable {w w' : World} {lo : Nat} {a b : Value} {X Y : List Int}
theorem Duo.symm (h : Duo w lo a b X Y) : Duo w lo b a Y X := ⟨h.rb, h.ra, fun g e1 e2 => h.ne g e2 e1⟩
theorem Duo.new (h : Duo w lo a b X Y) (r : Below w.heap.size w w') : Duo w' lo a b X Y := ⟨(h.ra.new r).wide (Nat.le_refl _) r.size, (h.rb.new r).wide (Nat.le_refl _) r.size, h.ne⟩
theorem Duo.only (h : Duo w lo a b X Y) {B : Nat} (g : w.grownBy w' (some B)) (hB : B < lo) : Duo w' lo a b X Y :=
  ⟨(h.ra.out (Out.of_only g) (.inr (by omega))).wide (Nat.le_refl _) g.size, (h.rb.out (Out.of_only g) (.inr (by omega))).wide (Nat.le_refl _) g.size, h.ne⟩
theorem Duo.app (h : Duo w lo a b X Y) {v' : Value} {X' : List Int} (h1 : Row w' lo w'.heap.size 3 v' (ivs X')) (h2 : w.heap.size ≤ w'.heap.size) (h3 : ∀ g, g < w.heap.size → a.ownBlock ≠ some g → w'.heap[g]? = w.heap[g]?) (h4 : ∀ g, v'.ownBlock = some g → a.ownBlock = some g ∨ g = w.heap.size) : Duo w' lo v' b X' Y :=
  ⟨h1, (h.rb.keep1 (fun g e hg => h3 g hg (fun e' => h.ne g e' e))).wide (Nat.le_refl _) h2, fun g e e' => by
    rcases h4 g e with e2 | e2
    · exact h.ne g e2 e'
    · have := h.rb.2 g e'; omega⟩
end
theorem Row.setO {w : World} {lo hi : Nat} {t : TypeId} {g n c i : Nat} {xs : List Value} {v : Value} (h : Row w lo hi t (.slice (some ⟨g, 0, none⟩) n c) xs) : Row (w.setCell ⟨g, i, none⟩ v) lo hi t (.slice (some ⟨g, 0, none⟩) n c) (xs.set i v) := by
  obtain ⟨⟨h1, h2⟩, h3⟩ := h
  rcases h2 with ⟨e, hn⟩ | ⟨g', cap, cur, e, hb, hgg, hnc, hcm, hcs, htk⟩
  · injection e with e1; cases e1
  · injection e with e1 e2 e3
    injection e1 with e1
    injection e1 with e1
    subst e1 e3
    have hst := (World.ownsRow.stored (w := w) (base := lo) (e := t) (size := 1) (g := g) (n := n) (cap := c) (xs := xs) (e2 ▸ ⟨h1, .inr ⟨g, c, cur, rfl, hb, hgg, hnc, hcm, hcs, htk⟩⟩) i v).1
    refine ⟨?_, fun g' hg' => h3 g' hg'⟩
    rw [List.length_set]
    exact e2 ▸ hst
theorem Row.frozO {w : World} {lo hi : Nat} {t : TypeId} {g n c i : Nat} {xs : List Value} (h : Row w lo hi t (.slice (some ⟨g, 0, none⟩) n c) xs) : w.frozen? ⟨g, i, none⟩ = false := by
  obtain ⟨⟨h1, h2⟩, h3⟩ := h
  rcases h2 with ⟨e, hn⟩ | ⟨g', cap, cur, e, hb, hgg, _⟩
  · injection e with e1; cases e1
  · injection e with e1 e2 e3
    injection e1 with e1
    injection e1 with e1
    subst e1
    exact frozen_of_row w g i cur t hgg
theorem ivs_setO (zs : List Int) (k : Nat) (x : Int) : (ivs zs).set k (.int .i64 x) = ivs (zs.set k x) := by simp [ivs, List.map_set]
/-- A row with an element: where it lies. -/
theorem Row.pos {w : World} {lo hi : Nat} {t : TypeId} {v : Value} {xs : List Value} {n : Nat} (h : Row w lo hi t v xs) (hn : xs.length = n) (h0 : 0 < n) : ∃ g c, v = .slice (some ⟨g, 0, none⟩) n c ∧ lo ≤ g ∧ g < hi ∧ g < w.heap.size ∧ n ≤ c ∧ c ≤ maxLen := by
  subst hn
  rcases h.1.2 with ⟨rfl, hn⟩ | ⟨g, cap, cur, rfl, hb, hgg, hnc, hcm, _⟩
  · omega
  · exact ⟨g, cap, rfl, hb, h.2 g rfl, (Array.getElem?_eq_some_iff.1 hgg).1, hnc, hcm⟩
theorem Row.cellO {w : World} {lo hi g n c k : Nat} {t : TypeId} {X : List Int} (h : Row w lo hi t (.slice (some ⟨g, 0, none⟩) n c) (ivs X)) (hk : k < X.length) : w.cell? ⟨g, k, none⟩ = some (.int .i64 X[k]) := by
  obtain ⟨ad, e, _, hc⟩ := ivs_at h.rd' hk
  injection e with e
  subst e
  rwa [Addr.add_lit, Nat.zero_add] at hc
end Go.Proofs.Ytdpaoaoipnoiiaa
