/- A slice of slices of integers that is only read, as a value: for the models' results. No conditions. -/
import Derived.Test.YtignchefkihdaaaDoorMg5
import Derived.Test.YtignchefkihdaaaDoorMg2
import Derived.Laws.Slices
import Derived.Test.YtignchefkihdaaaDoorMg4
namespace Go.Proofs.YtignchefkihdaaaDoor
open Go.ChangeShapes Go.WideShapes Go.ChangeAt Go.RowKit
/-- The value is a slice that reads as X below block B. -/
def RdV (w : World) (B : Nat) (v : Value) (X : List (List Int)) : Prop := B ≤ w.heap.size ∧ ∃ A c, v = .slice A X.length c ∧ RdSS w B A X ∧ X.length ≤ c ∧ c ≤ maxLen
section
variable {w w' : World} {B lo hi : Nat} {v : Value} {X : List (List Int)}
theorem RdV.rd (h : RdV w B v X) {n : Nat} (hn : X.length = n) : ∃ A c, v = .slice A n c ∧ RdSS w B A X ∧ n ≤ c ∧ c ≤ maxLen := by
  subst hn
  exact h.2
theorem RdV.rd' {A : Option Addr} {n c : Nat} (h : RdV w B (.slice A n c) X) : RdSS w B A X := by
  obtain ⟨A', c', h1, h2, _, _⟩ := h.2
  injection h1 with e1 e2 e3
  subst e1
  exact h2
theorem RdV.new (h : RdV w B v X) (hb : Below w.heap.size w w') : RdV w' B v X := by
  obtain ⟨h0, A, c, h1, h2, h3⟩ := h
  exact ⟨Nat.le_trans h0 hb.size, A, c, h1, h2.below (hb.mono h0), h3⟩
theorem RdV.out (h : RdV w B v X) (o : Out lo hi w w') (hd : B ≤ lo ∨ B ≤ 0) : RdV w' B v X := by
  obtain ⟨h0, A, c, h1, h2, h3⟩ := h
  exact ⟨Nat.le_trans h0 o.size, A, c, h1, h2.below (o.below (by omega) h0), h3⟩
theorem RdV.of_own (h : OwnSS w lo w.heap.size v X) : RdV w w.heap.size v X := by
  obtain ⟨A, c, h1, h2, h3, h4⟩ := h.rd rfl
  exact ⟨Nat.le_refl _, A, c, h1, h2, h3, h4⟩
end
/-- What a model gives back: a slice of slices that reads as X. -/
def FreshRd (X : List (List Int)) (w : World) (e : Ending) (w' : World) : Prop := ∃ v, e = .returned v ∧ RdV w' w'.heap.size v X ∧ Below w.heap.size w w'
end Go.Proofs.YtignchefkihdaaaDoor

/- A slice of slices of integers whose rows are shared (the models make such), over any world: its outer row is the call's own, what it leads to is only read. And 's[k:]', 's[:k]' at letters. No conditions. -/
namespace Go.Proofs.YtignchefkihdaaaDoor
open Go.ChangeShapes Go.WideShapes Go.ChangeAt Go.RowKit
/-- The cells of a slice of slices. -/
def Cel (w : World) (B : Nat) (cs : List Value) (X : List (List Int)) : Prop :=
  cs.length = X.length ∧ ∀ (k : Nat) (x : List Int), X[k]? = some x → ∃ Aj cj, cs[k]? = some (.slice Aj x.length cj) ∧ x.length ≤ cj ∧ cj ≤ maxLen ∧ Rd w B Aj (ivs x)
section
variable {w w' : World} {B B' lo hi : Nat} {A : Option Addr} {cs ds : List Value} {X Y : List (List Int)} {v : Value}
theorem Cel.below (h : Cel w B cs X) (hb : Below B w w') : Cel w' B cs X := ⟨h.1, fun k x hx => by
  obtain ⟨Aj, cj, h1, h2, h3, h4⟩ := h.2 k x hx
  exact ⟨Aj, cj, h1, h2, h3, h4.below hb⟩⟩
theorem Cel.more (h : Cel w B cs X) (hB : B ≤ B') : Cel w B' cs X := ⟨h.1, fun k x hx => by
  obtain ⟨Aj, cj, h1, h2, h3, h4⟩ := h.2 k x hx
  exact ⟨Aj, cj, h1, h2, h3, h4.more hB⟩⟩
theorem Cel.new (h : Cel w w.heap.size cs X) (hb : Below w.heap.size w w') : Cel w' w'.heap.size cs X := (h.below hb).more hb.size
theorem Cel.nil : Cel w B [] [] := ⟨rfl, fun k x hx => by simp at hx⟩
theorem Cel.one {x : List Int} {c : Nat} (h : Rd w B A (ivs x)) (h1 : x.length ≤ c) (h2 : c ≤ maxLen) : Cel w B [.slice A x.length c] [x] := ⟨rfl, fun k y hy => by
  cases k with
  | zero => simp at hy; subst hy; exact ⟨A, c, rfl, h1, h2, h⟩
  | succ k => simp at hy⟩
theorem Cel.app (h : Cel w B cs X) (k : Cel w B ds Y) : Cel w B (cs ++ ds) (X ++ Y) := ⟨by rw [List.length_append, List.length_append, h.1, k.1], fun j x hx => by
  by_cases hj : j < X.length
  · rw [List.getElem?_append_left hj] at hx
    rw [List.getElem?_append_left (by rw [h.1]; exact hj)]
    exact h.2 j x hx
  · rw [List.getElem?_append_right (by omega)] at hx
    rw [List.getElem?_append_right (by rw [h.1]; omega), h.1]
    exact k.2 _ x hx⟩
theorem Cel.take (h : Cel w B cs X) (n : Nat) : Cel w B (cs.take n) (X.take n) := ⟨by simp [h.1], fun j x hx => by
  rw [List.getElem?_take] at hx ⊢
  split at hx
  · rename_i hj; rw [if_pos hj]; exact h.2 j x hx
  · cases hx⟩
theorem Cel.drop (h : Cel w B cs X) (n : Nat) : Cel w B (cs.drop n) (X.drop n) := ⟨by simp [h.1], fun j x hx => by
  rw [List.getElem?_drop] at hx ⊢
  exact h.2 _ x hx⟩
theorem Cel.ones (h : Cel w B cs X) : ∀ u ∈ cs, u.oneCell' = true := fun u hu => by
  obtain ⟨j, hj, rfl⟩ := List.getElem_of_mem hu
  have hx : j < X.length := by rw [← h.1]; exact hj
  obtain ⟨Aj, cj, h1, _⟩ := h.2 j X[j] (List.getElem?_eq_getElem hx)
  rw [List.getElem?_eq_getElem hj] at h1
  injection h1 with h1
  rw [h1]; rfl
theorem Cel.rd (h : Cel w B cs X) (hr : Rd w B A cs) : RdSS w B A X := fun k x hx => by
  obtain ⟨Aj, cj, h1, h2, h3, h4⟩ := h.2 k x hx
  obtain ⟨ad, e, hb, hc⟩ := hr k _ h1
  exact ⟨ad, Aj, cj, e, hb, hc, h2, h3, h4⟩
/-- The outer row is the call's own; what it leads to is read below hi. -/
def SetsR (w : World) (lo hi : Nat) (v : Value) (X : List (List Int)) : Prop := ∃ cs, Row w lo hi 25 v cs ∧ Cel w hi cs X
theorem SetsR.new (h : SetsR w lo w.heap.size v X) (hb : Below w.heap.size w w') : SetsR w' lo w'.heap.size v X := by
  obtain ⟨cs, h1, h2⟩ := h
  exact ⟨cs, (h1.new hb).wide (Nat.le_refl _) hb.size, h2.new hb⟩
theorem SetsR.rdv (h : SetsR w lo w.heap.size v X) : RdV w w.heap.size v X := by
  obtain ⟨cs, h1, h2⟩ := h
  obtain ⟨A, c, rfl, hr, hc, hm⟩ := h1.rd rfl
  rw [h2.1] at hc ⊢
  exact ⟨Nat.le_refl _, A, c, rfl, h2.rd hr, hc, hm⟩
theorem SetsR.made (w : World) (lo : Nat) (hlo : lo ≤ w.heap.size) : SetsR (w.alloc (.cells #[] 25)) lo (w.heap.size + 1) (.slice (some ⟨w.heap.size, 0, none⟩) 0 0) [] :=
  ⟨[], Row.made lo #[] 0 25 hlo rfl (Nat.zero_le _), Cel.nil⟩
end
/-- The address of 's[k:]'. -/
def tlA (A : Option Addr) (k c : Nat) : Option Addr := if c = k then A else A.map (·.add k)
theorem Rd.tl {w : World} {B k c : Nat} {A : Option Addr} {xs : List Value} (h : Rd w B A xs) (hc : xs.length ≤ c) : Rd w B (tlA A k c) (xs.drop k) := fun j u hu => by
  unfold tlA
  rw [List.getElem?_drop] at hu
  by_cases e : c = k
  · rw [List.getElem?_eq_none (by omega)] at hu; cases hu
  · obtain ⟨ad, rfl, hb, hc'⟩ := h _ u hu
    rw [if_neg e]
    refine ⟨ad.add k, rfl, by rw [add_blk]; exact hb, ?_⟩
    have e1 : (ad.add k).add j = ad.add (k + j) := by
      unfold Addr.add
      by_cases hi : k = 0 <;> by_cases hj : j = 0 <;> simp [hi, hj, Nat.add_assoc]
    rw [e1]; exact hc'
theorem Rd.hd {w : World} {B k : Nat} {A : Option Addr} {xs : List Value} (h : Rd w B A xs) : Rd w B A (xs.take k) := fun j u hu => by
  rw [List.getElem?_take] at hu
  split at hu
  · exact h j u hu
  · cases hu
theorem run_from {P : Program} (W : World) (t e : TypeId) (ht : P.underlying t = some (.slice e)) (hz : ∀ w, (Go.sizeOf e).run P w = .ok 1 w) (A : Option Addr) {n c k : Nat} (h1 : k ≤ n) (_h2 : n ≤ c) :
    (Instr.slice t (.slice A n c) (some (.int .i64 (k : Int))) none none).run P W = .ok (.slice (tlA A k c) (n - k) (c - k)) W := by
  have ht' : P.underlying t = some (.slice (P.elem t)) := by simp [Program.elem, ht]
  have he : P.elem t = e := by simp [Program.elem, ht]
  rw [run_slice_l W t _ _ _ ht' .i64 _ (by omega) (by omega), he, hz]
  unfold tlA
  by_cases h0 : c = k
  · simp [Result.andThen, sliced, h0]
  · simp [Result.andThen, sliced, h0]
theorem run_to {P : Program} (W : World) (t e : TypeId) (ht : P.underlying t = some (.slice e)) (hz : ∀ w, (Go.sizeOf e).run P w = .ok 1 w) (A : Option Addr) {n c k : Nat} (h1 : k ≤ c) :
    (Instr.slice t (.slice A n c) none (some (.int .i64 (k : Int))) none).run P W = .ok (.slice A k c) W := by
  have ht' : P.underlying t = some (.slice (P.elem t)) := by simp [Program.elem, ht]
  have he : P.elem t = e := by simp [Program.elem, ht]
  rw [run_slice_h W t _ _ _ ht' .i64 _ (by omega) (by omega), he, hz]
  by_cases h0 : c = 0
  · simp [Result.andThen, sliced, h0]
  · cases A <;> simp [Result.andThen, sliced, h0, Addr.add]
/-- A row of one block is read on while other blocks turn. -/
theorem Rd.out1 {w w' : World} {B g lo hi : Nat} {xs : List Value} (h : Rd w B (some ⟨g, 0, none⟩) xs) (o : Out lo hi w w') (hg : g < w.heap.size) (hd : g < lo ∨ hi ≤ g) : Rd w' w'.heap.size (some ⟨g, 0, none⟩) xs := fun j u hu => by
  obtain ⟨ad, e, _, hc⟩ := h j u hu
  injection e with e
  subst e
  refine ⟨_, rfl, Nat.lt_of_lt_of_le hg o.size, ?_⟩
  have hb : ((⟨g, 0, none⟩ : Addr).add j).block = g := add_blk _ _
  exact (World.cell?_of_block (o.block _ (by rw [hb]; exact hg) (by rw [hb]; exact hd))).trans hc
/-- The same, what it leads to read below lo; or still a slice without room: whatever is appended makes a new row. -/
def SetsZ (w : World) (lo : Nat) (v : Value) (X : List (List Int)) : Prop := (∃ ad, v = .slice (some ad) 0 0 ∧ X = []) ∨ ∃ cs, Row w lo w.heap.size 25 v cs ∧ Cel w lo cs X
theorem SetsZ.new {w w' : World} {lo : Nat} {v : Value} {X : List (List Int)} (h : SetsZ w lo v X) (hb : Below w.heap.size w w') (hlo : lo ≤ w.heap.size) : SetsZ w' lo v X := by
  rcases h with h | ⟨cs, h1, h2⟩
  · exact .inl h
  · exact .inr ⟨cs, (h1.new hb).wide (Nat.le_refl _) hb.size, h2.below (hb.mono hlo)⟩
theorem SetsZ.rdv {w : World} {lo : Nat} {v : Value} {X : List (List Int)} (h : SetsZ w lo v X) (hlo : lo ≤ w.heap.size) : RdV w w.heap.size v X := by
  rcases h with ⟨ad, rfl, rfl⟩ | ⟨cs, h1, h2⟩
  · exact ⟨Nat.le_refl _, some ad, 0, rfl, fun k x hx => by simp at hx, Nat.le_refl _, Nat.zero_le _⟩
  · exact SetsR.rdv ⟨cs, h1, h2.more hlo⟩
theorem wpList_appSets {w : World} {ops : Array Oper} {rest : List Oper} {o : Oper} {a : Act} {Q : Exit → Act → World → Prop} (hgd : o.guard = none) (s x : Operand)
    (ho : o.op = .call { callee := .builtin .append, args := #[s, x], argTypes := #[24, 24] })
    {lo g xl cj : Nat} {v : Value} {X : List (List Int)} {y : List Int} {Aj : Option Addr} (h : SetsZ w lo v X) (hs : a.eval s = v) (hx : a.eval x = .slice (some ⟨g, 0, none⟩) 1 1) (hg : w.heap[g]? = some (.cells #[.slice Aj xl cj] 25 (0, 0)))
    (hxl : y.length = xl) (hc : xl ≤ cj) (hcm : cj ≤ maxLen) (hr : Rd w lo Aj (ivs y)) (hn : X.length ≤ 1048576) (hlo : lo ≤ w.heap.size)
    (K : ∀ v' w', SetsZ w' lo v' (X ++ [y]) → Below lo w w' → w.heap.size ≤ w'.heap.size → wpList Tryd.prog ops Q rest (a.put o.dst v') w') : wpList Tryd.prog ops Q (o :: rest) a w := by
  obtain ⟨je, hje, hy0, hy1, hy2⟩ := info_parts IntSS_info
  have hcell : ∀ (j : Nat) (u : Value), [Value.slice Aj xl cj][j]? = some u → w.cell? ((⟨g, 0, none⟩ : Addr).add j) = some u := fun j u hu => by
    cases j with
    | zero =>
      simp at hu
      subst hu
      show w.cell? ⟨g, 0, none⟩ = _
      rw [cell_of_row w g 0 _ 25 (0, 0) hg]; rfl
    | succ j => simp at hu
  have one : Cel w lo [Value.slice Aj xl cj] [y] := by
    have := Cel.one (c := cj) hr (by rw [hxl]; exact hc) hcm
    rw [hxl] at this; exact this
  have key : ∃ v' w', (Builtin.append_ #[24, 24] o.type #[v, .slice (some ⟨g, 0, none⟩) 1 1]).run Tryd.prog w = .ok v' w' ∧ SetsZ w' lo v' (X ++ [y]) ∧ Below lo w w' := by
    rcases h with ⟨ad, rfl, rfl⟩ | ⟨cs, hrow, hcel⟩
    · have hrun := run_append_grow (P := Tryd.prog) w 24 o.type 25 je _ Tryd.underlying24 hje hy0 ad 0 0 [] (by simp) (by simp) ⟨g, 0, none⟩ 1 1 [Value.slice Aj xl cj] (by rw [hy1]; rfl) hcell (by omega) (by omega) (growslice_fits (by omega) (by rw [hy2]; omega))
      have hG1 := grownCap_ge w 1 0 25
      have hG2 := grownCap_le_maxLen w 1 0 25 (by unfold maxLen; omega)
      simp only [Nat.zero_add, List.nil_append, Array.empty_append] at hrun ⊢
      generalize grownCap w 1 0 25 = G at hrun hG1 hG2
      have hb : Below w.heap.size w (w.drew.alloc (.cells (([] : List Value).toArray ++ [Value.slice Aj xl cj].toArray ++ Builtin.zeroCells (Value.slice none 0 0).cells (G - 1)) 25)) := ((Below.refl _ _).drew).alloc (Nat.le_refl _) _
      refine ⟨_, _, hrun, .inr ⟨[Value.slice Aj xl cj], ⟨⟨rfl, .inr ⟨w.heap.size, G, _, rfl, hlo, heap_alloc_new w.drew _, hG1, hG2, ?_, ?_⟩⟩, fun b hb => by simp [Value.ownBlock] at hb; simp; omega⟩, one.below (hb.mono hlo)⟩, hb.mono hlo⟩
      · simp [Builtin.zeroCells, Value.cells]; omega
      · simp
    · have hl := hcel.1
      obtain ⟨v', w', hrun, h2, h3⟩ := run_app (P := Tryd.prog) 24 o.type 25 je _ 24 Tryd.underlying24 hje hy0 hy1 hy2 rfl (c := 1) hrow rfl (fun j u hu => ⟨_, rfl, Nat.lt_succ_of_le (Nat.le_of_eq rfl), hcell j u hu⟩ : Rd w (g + 1) (some ⟨g, 0, none⟩) [Value.slice Aj xl cj]) (by simp [Value.oneCell']) (by simp only [List.length_singleton]; unfold maxLen; omega) (by simp only [List.length_singleton]; omega) hlo
      have hcut : Below lo w w' := h3.below (Nat.le_refl _) hlo
      exact ⟨v', w', hrun, .inr ⟨_, h2, (hcel.app one).below hcut⟩, hcut⟩
  obtain ⟨v', w', hrun, h2, h3⟩ := key
  refine wpList_plain hgd fun K' hK' => ?_
  unfold Oper.wp
  simp [execOp, ho, resolve, invoke, builtin, hs, hx, hrun, Result.andThen]
  exact hK' _ _ (K v' w' h2 h3 h3.size)
end Go.Proofs.YtignchefkihdaaaDoor

/- A row that a loop makes grow: which blocks it may turn and which stay, and append's law for it; filters of a list's beginning. No conditions. -/
namespace Go.Proofs.YtignchefkihdaaaDoor
open Go.ChangeShapes Go.WideShapes Go.ChangeAt Go.RowKit
/-- A row that began in block q of world W and has grown since; of what W held, block q alone has turned. -/
structure Gr (W : World) (q : Nat) (t : TypeId) (w : World) (v : Value) (xs : List Value) : Prop where
  row : Row w q w.heap.size t v xs
  out : Out q (q + 1) W w
  own : ∀ g, v.ownBlock = some g → g = q ∨ W.heap.size ≤ g
section
variable {W w w' : World} {q : Nat} {t : TypeId} {v : Value} {xs : List Value}
theorem Gr.start (h : Row W q W.heap.size t (.slice (some ⟨q, 0, none⟩) 0 0) xs) : Gr W q t W (.slice (some ⟨q, 0, none⟩) 0 0) xs :=
  ⟨h, Out.refl, fun g hg => by simp [Value.ownBlock] at hg; exact .inl hg.symm⟩
theorem Gr.nil (W : World) (q : Nat) (t : TypeId) : Gr W q t W (.slice none 0 0) [] := ⟨Row.nil, Out.refl, fun g hg => by simp [Value.ownBlock] at hg⟩
theorem Gr.new (h : Gr W q t w v xs) (hb : Below w.heap.size w w') : Gr W q t w' v xs :=
  ⟨(h.row.new hb).wide (Nat.le_refl _) hb.size, h.out.trans (Out.of_below hb), h.own⟩
theorem Gr.drewN (h : Gr W q t w v xs) (n : Nat) : Gr W q t (w.drewN n) v xs := ⟨h.row, h.out.drewN n, h.own⟩
theorem Gr.drew (h : Gr W q t w v xs) : Gr W q t w.drew v xs := h.drewN 1
theorem Gr.below (h : Gr W q t w v xs) {B : Nat} (hB : B ≤ q) (hs : B ≤ W.heap.size) : Below B W w := h.out.below hB hs
theorem Gr.rd {B : Nat} {A : Option Addr} {ys : List Value} (h : Gr W q t w v xs) (r : Rd W B A ys) (hB : B ≤ q) (hs : B ≤ W.heap.size) : Rd w w.heap.size A ys := (r.below (h.below hB hs)).more (by have := h.out.size; omega)
theorem Gr.other {lo hi : Nat} {t' : TypeId} {u : Value} {ys : List Value} (h : Gr W q t w v xs) (r : Row W lo hi t' u ys) (hq : q < lo) : Row w lo hi t' u ys := r.out h.out (.inr hq)
/-- The row may only lie in block q, or in blocks made since: another row's block is not touched. -/
theorem run_gr {P : Program} (ty ty' : TypeId) (e : TypeId) (i : TypeInfo) (z : Value) (bytes : Nat) (ht : P.underlying ty = some (.slice e)) (hi : P.info? e = some i) (hz : i.zero = some z) (hsize : i.size = 1) (hby : i.bytes = bytes) (hzs : z.cells.size = 1)
    {B m c : Nat} {news : List Value} {ad : Addr} (h : Gr W q e w v xs) (hq : q ≤ w.heap.size) (hm : news.length = m) (hr : Rd w B (some ad) news) (h1 : ∀ u ∈ news, u.oneCell' = true)
    (h63 : xs.length + m ≤ maxLen) (hbytes : (xs.length + m) * bytes ≤ 140737488355328) :
    ∃ v' w', (Builtin.append_ #[ty, ty] ty' #[v, .slice (some ad) m c]).run P w = .ok v' w' ∧ Gr W q e w' v' (xs ++ news) ∧ w.heap.size ≤ w'.heap.size := by
  obtain ⟨v', w', hrun, h2, h3⟩ := run_app (P := P) ty ty' e i z bytes ht hi hz hsize hby hzs (c := c) h.row hm hr h1 h63 hbytes hq
  obtain ⟨v2, w2, hrun2, _, b2, _, b4⟩ := run_append_own_at (P := P) w q ty ty' e i z 1 bytes ht hi hz hsize hby hzs (by omega) v xs.length xs h.row.1 ad m c news (by omega) (fun j u hu => by
    obtain ⟨ad', e1, _, hc⟩ := hr j u hu
    injection e1 with e1
    subst e1
    exact hc) h1 h63 hbytes hq
  rw [hrun] at hrun2
  injection hrun2 with e1 e2
  subst e1
  subst e2
  have hs := h.out.size
  refine ⟨v', w', hrun, ⟨h2, ⟨b2.os.trans h.out.os, b2.tape.trans h.out.tape, b2.output.trans h.out.output, by have := b2.size; omega, fun k hk hn => ?_⟩, fun g hg => ?_⟩, b2.size⟩
  · refine (b2.block k (by omega) (fun e => ?_)).trans (h.out.block k hk hn)
    have := h.own k e.symm
    omega
  · rcases b4 with b4 | b4
    · exact h.own g (b4 ▸ hg)
    · rw [b4] at hg
      injection hg with hg
      exact .inr (by omega)
end
/-- Append's law for a row that grows. -/
theorem wpList_gr {P : Program} {w : World} {ops : Array Oper} {rest : List Oper} {o : Oper} {a : Act} {Q : Exit → Act → World → Prop} (hgd : o.guard = none) (s x : Operand) (t : TypeId)
    (ho : o.op = .call { callee := .builtin .append, args := #[s, x], argTypes := #[t, t] })
    (e : TypeId) (i : TypeInfo) (z : Value) (bytes : Nat) (ht : P.underlying t = some (.slice e)) (hi : P.info? e = some i) (hz : i.zero = some z) (hsize : i.size = 1) (hby : i.bytes = bytes) (hzs : z.cells.size = 1)
    {W : World} {q B m c : Nat} {v : Value} {xs news : List Value} {ad : Addr} (hs : a.eval s = v) (hx : a.eval x = .slice (some ad) m c) (h : Gr W q e w v xs) (hq : q ≤ w.heap.size) (hm : news.length = m) (hr : Rd w B (some ad) news) (h1 : ∀ u ∈ news, u.oneCell' = true)
    (h63 : xs.length + m ≤ maxLen) (hbytes : (xs.length + m) * bytes ≤ 140737488355328)
    (K : ∀ v' w', Gr W q e w' v' (xs ++ news) → w.heap.size ≤ w'.heap.size → wpList P ops Q rest (a.put o.dst v') w') : wpList P ops Q (o :: rest) a w := by
  obtain ⟨v', w', hrun, h2, h3⟩ := run_gr (P := P) t o.type e i z bytes ht hi hz hsize hby hzs (c := c) h hq hm hr h1 h63 hbytes
  refine wpList_plain hgd fun K' hK' => ?_
  unfold Oper.wp
  simp [execOp, ho, resolve, invoke, builtin, hs, hx, hrun, Result.andThen]
  exact hK' _ _ (K v' w' h2 h3)
theorem alloc_new (w : World) (o : Obj) : Below w.heap.size w (w.alloc o) := (Below.refl _ _).alloc (Nat.le_refl _) o
theorem filt_yes {α : Type} {l : List α} {p : α → Bool} {k : Nat} (hk : k < l.length) (h : p l[k] = true) : (l.take (k + 1)).filter p = (l.take k).filter p ++ [l[k]] := by
  rw [List.take_succ_eq_append_getElem hk, List.filter_append]; simp [h]
theorem filt_no {α : Type} {l : List α} {p : α → Bool} {k : Nat} (hk : k < l.length) (h : p l[k] = false) : (l.take (k + 1)).filter p = (l.take k).filter p := by
  rw [List.take_succ_eq_append_getElem hk, List.filter_append]; simp [h]
theorem filt_len {α : Type} (l : List α) (p : α → Bool) (k : Nat) : ((l.take k).filter p).length ≤ k := Nat.le_trans (List.length_filter_le _ _) (by simp; omega)
end Go.Proofs.YtignchefkihdaaaDoor
