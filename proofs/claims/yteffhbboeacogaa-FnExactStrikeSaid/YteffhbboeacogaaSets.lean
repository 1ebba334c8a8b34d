/- A slice of slices of integers whose rows are shared (the models make such), over any world: its outer row is the call's own, what it leads to is only read. And 's[k:]', 's[:k]' at letters. No conditions. -/
import Derived.Test.YteffhbboeacogaaRdV
import Derived.Test.YteffhbboeacogaaAppend
import Derived.Laws.Slices
namespace Go.Proofs.Yteffhbboeacogaa
open Go.ChangeShapes Go.WideShapes Go.ChangeAt Go.RowKit
/-- The cells of a slice of slices. -/
def Cel (w : World) (B : Nat) (cs : List Value) (X : List (List Int)) : Prop :=
  cs.length = X.length ∧ ∀ (k : Nat) (x : List Int), X[k]? = some x → ∃ Aj cj, cs[k]? = some (.slice Aj x.length cj) ∧ x.length ≤ cj ∧ cj ≤ maxLen ∧ Rd w B Aj (ivs x)
section
variable {w w' : World} {B B' lo hi : Nat} {A : Option Addr} {cs ds : List Value} {X Y : List (List Int)} {v : Value}
theorem Cel.below (h : Cel w B cs X) (hb : Below B w w') : Cel w' B cs X := ⟨h.1, fun k x hx => by
  obtain ⟨Aj, cj, h1, h2, h3, h4⟩ := h.2 k x hx
  exact ⟨Aj, cj, h1, h2, h3, h4.below hb⟩⟩
theorem Cel.more (h : Cel w B cs X) (hB : B ≤ B') : Cel w B' cs X := ⟨h.1, fun k x hx => by
  obtain ⟨Aj, cj, h1, h2, h3, h4⟩ := h.2 k x hx
  exact ⟨Aj, cj, h1, h2, h3, h4.more hB⟩⟩
theorem Cel.new (h : Cel w w.heap.size cs X) (hb : Below w.heap.size w w') : Cel w' w'.heap.size cs X := (h.below hb).more hb.size
theorem Cel.nil : Cel w B [] [] := ⟨rfl, fun k x hx => by simp at hx⟩
theorem Cel.one {x : List Int} {c : Nat} (h : Rd w B A (ivs x)) (h1 : x.length ≤ c) (h2 : c ≤ maxLen) : Cel w B [.slice A x.length c] [x] := ⟨rfl, fun k y hy => by
  cases k with
  | zero => simp at hy; subst hy; exact ⟨A, c, rfl, h1, h2, h⟩
  | succ k => simp at hy⟩
theorem Cel.app (h : Cel w B cs X) (k : Cel w B ds Y) : Cel w B (cs ++ ds) (X ++ Y) := ⟨by rw [List.length_append, List.length_append, h.1, k.1], fun j x hx => by
  by_cases hj : j < X.length
  · rw [List.getElem?_append_left hj] at hx
    rw [List.getElem?_append_left (by rw [h.1]; exact hj)]
    exact h.2 j x hx
  · rw [List.getElem?_append_right (by omega)] at hx
    rw [List.getElem?_append_right (by rw [h.1]; omega), h.1]
    exact k.2 _ x hx⟩
theorem Cel.take (h : Cel w B cs X) (n : Nat) : Cel w B (cs.take n) (X.take n) := ⟨by simp [h.1], fun j x hx => by
  rw [List.getElem?_take] at hx ⊢
  split at hx
  · rename_i hj; rw [if_pos hj]; exact h.2 j x hx
  · cases hx⟩
theorem Cel.drop (h : Cel w B cs X) (n : Nat) : Cel w B (cs.drop n) (X.drop n) := ⟨by simp [h.1], fun j x hx => by
  rw [List.getElem?_drop] at hx ⊢
  exact h.2 _ x hx⟩
theorem Cel.ones (h : Cel w B cs X) : ∀ u ∈ cs, u.oneCell' = true := fun u hu => by
  obtain ⟨j, hj, rfl⟩ := List.getElem_of_mem hu
  have hx : j < X.length := by rw [← h.1]; exact hj
  obtain ⟨Aj, cj, h1, _⟩ := h.2 j X[j] (List.getElem?_eq_getElem hx)
  rw [List.getElem?_eq_getElem hj] at h1
  injection h1 with h1
  rw [h1]; rfl
theorem Cel.rd (h : Cel w B cs X) (hr : Rd w B A cs) : RdSS w B A X := fun k x hx => by
  obtain ⟨Aj, cj, h1, h2, h3, h4⟩ := h.2 k x hx
  obtain ⟨ad, e, hb, hc⟩ := hr k _ h1
  exact ⟨ad, Aj, cj, e, hb, hc, h2, h3, h4⟩
/-- The outer row is the call's own; what it leads to is read below hi. -/
def SetsR (w : World) (lo hi : Nat) (v : Value) (X : List (List Int)) : Prop := ∃ cs, Row w lo hi 24 v cs ∧ Cel w hi cs X
theorem SetsR.new (h : SetsR w lo w.heap.size v X) (hb : Below w.heap.size w w') : SetsR w' lo w'.heap.size v X := by
  obtain ⟨cs, h1, h2⟩ := h
  exact ⟨cs, (h1.new hb).wide (Nat.le_refl _) hb.size, h2.new hb⟩
theorem SetsR.rdv (h : SetsR w lo w.heap.size v X) : RdV w w.heap.size v X := by
  obtain ⟨cs, h1, h2⟩ := h
  obtain ⟨A, c, rfl, hr, hc, hm⟩ := h1.rd rfl
  rw [h2.1] at hc ⊢
  exact ⟨Nat.le_refl _, A, c, rfl, h2.rd hr, hc, hm⟩
theorem SetsR.made (w : World) (lo : Nat) (hlo : lo ≤ w.heap.size) : SetsR (w.alloc (.cells #[] 24)) lo (w.heap.size + 1) (.slice (some ⟨w.heap.size, 0, none⟩) 0 0) [] :=
  ⟨[], Row.made lo #[] 0 24 hlo rfl (Nat.zero_le _), Cel.nil⟩
end
/-- The address of 's[k:]'. -/
def tlA (A : Option Addr) (k c : Nat) : Option Addr := if c = k then A else A.map (·.add k)
theorem Rd.tl {w : World} {B k c : Nat} {A : Option Addr} {xs : List Value} (h : Rd w B A xs) (hc : xs.length ≤ c) : Rd w B (tlA A k c) (xs.drop k) := fun j u hu => by
  unfold tlA
  rw [List.getElem?_drop] at hu
  by_cases e : c = k
  · rw [List.getElem?_eq_none (by omega)] at hu; cases hu
  · obtain ⟨ad, rfl, hb, hc'⟩ := h _ u hu
    rw [if_neg e]
    refine ⟨ad.add k, rfl, by rw [add_blk]; exact hb, ?_⟩
    have e1 : (ad.add k).add j = ad.add (k + j) := by
      unfold Addr.add
      by_cases hi : k = 0 <;> by_cases hj : j = 0 <;> simp [hi, hj, Nat.add_assoc]
    rw [e1]; exact hc'
theorem Rd.hd {w : World} {B k : Nat} {A : Option Addr} {xs : List Value} (h : Rd w B A xs) : Rd w B A (xs.take k) := fun j u hu => by
  rw [List.getElem?_take] at hu
  split at hu
  · exact h j u hu
  · cases hu
theorem run_from {P : Program} (W : World) (t e : TypeId) (ht : P.underlying t = some (.slice e)) (hz : ∀ w, (Go.sizeOf e).run P w = .ok 1 w) (A : Option Addr) {n c k : Nat} (h1 : k ≤ n) (_h2 : n ≤ c) :
    (Instr.slice t (.slice A n c) (some (.int .i64 (k : Int))) none none).run P W = .ok (.slice (tlA A k c) (n - k) (c - k)) W := by
  have ht' : P.underlying t = some (.slice (P.elem t)) := by simp [Program.elem, ht]
  have he : P.elem t = e := by simp [Program.elem, ht]
  rw [run_slice_l W t _ _ _ ht' .i64 _ (by omega) (by omega), he, hz]
  unfold tlA
  by_cases h0 : c = k
  · simp [Result.andThen, sliced, h0]
  · simp [Result.andThen, sliced, h0]
theorem run_to {P : Program} (W : World) (t e : TypeId) (ht : P.underlying t = some (.slice e)) (hz : ∀ w, (Go.sizeOf e).run P w = .ok 1 w) (A : Option Addr) {n c k : Nat} (h1 : k ≤ c) :
    (Instr.slice t (.slice A n c) none (some (.int .i64 (k : Int))) none).run P W = .ok (.slice A k c) W := by
  have ht' : P.underlying t = some (.slice (P.elem t)) := by simp [Program.elem, ht]
  have he : P.elem t = e := by simp [Program.elem, ht]
  rw [run_slice_h W t _ _ _ ht' .i64 _ (by omega) (by omega), he, hz]
  by_cases h0 : c = 0
  · simp [Result.andThen, sliced, h0]
  · cases A <;> simp [Result.andThen, sliced, h0, Addr.add]
/-- A row of one block is read on while other blocks turn. -/
theorem Rd.out1 {w w' : World} {B g lo hi : Nat} {xs : List Value} (h : Rd w B (some ⟨g, 0, none⟩) xs) (o : Out lo hi w w') (hg : g < w.heap.size) (hd : g < lo ∨ hi ≤ g) : Rd w' w'.heap.size (some ⟨g, 0, none⟩) xs := fun j u hu => by
  obtain ⟨ad, e, _, hc⟩ := h j u hu
  injection e with e
  subst e
  refine ⟨_, rfl, Nat.lt_of_lt_of_le hg o.size, ?_⟩
  have hb : ((⟨g, 0, none⟩ : Addr).add j).block = g := add_blk _ _
  exact (World.cell?_of_block (o.block _ (by rw [hb]; exact hg) (by rw [hb]; exact hd))).trans hc
/-- The same, what it leads to read below lo; or still a slice without room: whatever is appended makes a new row. -/
def SetsZ (w : World) (lo : Nat) (v : Value) (X : List (List Int)) : Prop := (∃ ad, v = .slice (some ad) 0 0 ∧ X = []) ∨ ∃ cs, Row w lo w.heap.size 24 v cs ∧ Cel w lo cs X
theorem SetsZ.new {w w' : World} {lo : Nat} {v : Value} {X : List (List Int)} (h : SetsZ w lo v X) (hb : Below w.heap.size w w') (hlo : lo ≤ w.heap.size) : SetsZ w' lo v X := by
  rcases h with h | ⟨cs, h1, h2⟩
  · exact .inl h
  · exact .inr ⟨cs, (h1.new hb).wide (Nat.le_refl _) hb.size, h2.below (hb.mono hlo)⟩
theorem SetsZ.rdv {w : World} {lo : Nat} {v : Value} {X : List (List Int)} (h : SetsZ w lo v X) (hlo : lo ≤ w.heap.size) : RdV w w.heap.size v X := by
  rcases h with ⟨ad, rfl, rfl⟩ | ⟨cs, h1, h2⟩
  · exact ⟨Nat.le_refl _, some ad, 0, rfl, fun k x hx => by simp at hx, Nat.le_refl _, Nat.zero_le _⟩
  · exact SetsR.rdv ⟨cs, h1, h2.more hlo⟩
theorem wpList_appSets {w : World} {ops : Array Oper} {rest : List Oper} {o : Oper} {a : Act} {Q : Exit → Act → World → Prop} (hgd : o.guard = none) (s x : Operand)
    (ho : o.op = .call { callee := .builtin .append, args := #[s, x], argTypes := #[108, 108] })
    {lo g xl cj : Nat} {v : Value} {X : List (List Int)} {y : List Int} {Aj : Option Addr} (h : SetsZ w lo v X) (hs : a.eval s = v) (hx : a.eval x = .slice (some ⟨g, 0, none⟩) 1 1) (hg : w.heap[g]? = some (.cells #[.slice Aj xl cj] 24 (0, 0)))
    (hxl : y.length = xl) (hc : xl ≤ cj) (hcm : cj ≤ maxLen) (hr : Rd w lo Aj (ivs y)) (hn : X.length ≤ 1048576) (hlo : lo ≤ w.heap.size)
    (K : ∀ v' w', SetsZ w' lo v' (X ++ [y]) → Below lo w w' → w.heap.size ≤ w'.heap.size → wpList Try.prog ops Q rest (a.put o.dst v') w') : wpList Try.prog ops Q (o :: rest) a w := by
  obtain ⟨je, hje, hy0, hy1, hy2⟩ := info_parts IntSS_info
  have hcell : ∀ (j : Nat) (u : Value), [Value.slice Aj xl cj][j]? = some u → w.cell? ((⟨g, 0, none⟩ : Addr).add j) = some u := fun j u hu => by
    cases j with
    | zero =>
      simp at hu
      subst hu
      show w.cell? ⟨g, 0, none⟩ = _
      rw [cell_of_row w g 0 _ 24 (0, 0) hg]; rfl
    | succ j => simp at hu
  have one : Cel w lo [Value.slice Aj xl cj] [y] := by
    have := Cel.one (c := cj) hr (by rw [hxl]; exact hc) hcm
    rw [hxl] at this; exact this
  have key : ∃ v' w', (Builtin.append_ #[108, 108] o.type #[v, .slice (some ⟨g, 0, none⟩) 1 1]).run Try.prog w = .ok v' w' ∧ SetsZ w' lo v' (X ++ [y]) ∧ Below lo w w' := by
    rcases h with ⟨ad, rfl, rfl⟩ | ⟨cs, hrow, hcel⟩
    · have hrun := run_append_grow (P := Try.prog) w 108 o.type 24 je _ Try.underlying108 hje hy0 ad 0 0 [] (by simp) (by simp) ⟨g, 0, none⟩ 1 1 [Value.slice Aj xl cj] (by rw [hy1]; rfl) hcell (by omega) (by omega) (growslice_fits (by omega) (by rw [hy2]; omega))
      have hG1 := grownCap_ge w 1 0 24
      have hG2 := grownCap_le_maxLen w 1 0 24 (by unfold maxLen; omega)
      simp only [Nat.zero_add, List.nil_append, Array.empty_append] at hrun ⊢
      generalize grownCap w 1 0 24 = G at hrun hG1 hG2
      have hb : Below w.heap.size w (w.drew.alloc (.cells (([] : List Value).toArray ++ [Value.slice Aj xl cj].toArray ++ Builtin.zeroCells (Value.slice none 0 0).cells (G - 1)) 24)) := ((Below.refl _ _).drew).alloc (Nat.le_refl _) _
      refine ⟨_, _, hrun, .inr ⟨[Value.slice Aj xl cj], ⟨⟨rfl, .inr ⟨w.heap.size, G, _, rfl, hlo, heap_alloc_new w.drew _, hG1, hG2, ?_, ?_⟩⟩, fun b hb => by simp [Value.ownBlock] at hb; simp; omega⟩, one.below (hb.mono hlo)⟩, hb.mono hlo⟩
      · simp [Builtin.zeroCells, Value.cells]; omega
      · simp
    · have hl := hcel.1
      obtain ⟨v', w', hrun, h2, h3⟩ := run_app (P := Try.prog) 108 o.type 24 je _ 24 Try.underlying108 hje hy0 hy1 hy2 rfl (c := 1) hrow rfl (fun j u hu => ⟨_, rfl, Nat.lt_succ_of_le (Nat.le_of_eq rfl), hcell j u hu⟩ : Rd w (g + 1) (some ⟨g, 0, none⟩) [Value.slice Aj xl cj]) (by simp [Value.oneCell']) (by simp only [List.length_singleton]; unfold maxLen; omega) (by simp only [List.length_singleton]; omega) hlo
      have hcut : Below lo w w' := h3.below (Nat.le_refl _) hlo
      exact ⟨v', w', hrun, .inr ⟨_, h2, (hcel.app one).below hcut⟩, hcut⟩
  obtain ⟨v', w', hrun, h2, h3⟩ := key
  refine wpList_plain hgd fun K' hK' => ?_
  unfold Oper.wp
  simp [execOp, ho, resolve, invoke, builtin, hs, hx, hrun, Result.andThen]
  exact hK' _ _ (K v' w' h2 h3 h3.size)
end Go.Proofs.Yteffhbboeacogaa
