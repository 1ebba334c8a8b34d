/- A slice of slices of integers that is only read, as a value: for the models' results. No conditions. -/
import Derived.Test.YtjhknafajfpldaaDoorMg2
import Derived.Test.YtjhknafajfpldaaDoorMg1
import Derived.Laws.Slices
import Derived.Test.YtjhknafajfpldaaDoorMg6
import Derived.Test.YtjhknafajfpldaaDoorMg4
import Derived.Laws.IdiomCopy
namespace Go.Proofs.YtjhknafajfpldaaDoor
open Go.ChangeShapes Go.WideShapes Go.ChangeAt Go.RowKit
/-- The value is a slice that reads as X below block B. -/
def RdV (w : World) (B : Nat) (v : Value) (X : List (List Int)) : Prop := B ≤ w.heap.size ∧ ∃ A c, v = .slice A X.length c ∧ RdSS w B A X ∧ X.length ≤ c ∧ c ≤ maxLen
section
variable {w w' : World} {B lo hi : Nat} {v : Value} {X : List (List Int)}
theorem RdV.rd (h : RdV w B v X) {n : Nat} (hn : X.length = n) : ∃ A c, v = .slice A n c ∧ RdSS w B A X ∧ n ≤ c ∧ c ≤ maxLen := by
  subst hn
  exact h.2
theorem RdV.rd' {A : Option Addr} {n c : Nat} (h : RdV w B (.slice A n c) X) : RdSS w B A X := by
  obtain ⟨A', c', h1, h2, _, _⟩ := h.2
  injection h1 with e1 e2 e3
  subst e1
  exact h2
theorem RdV.new (h : RdV w B v X) (hb : Below w.heap.size w w') : RdV w' B v X := by
  obtain ⟨h0, A, c, h1, h2, h3⟩ := h
  exact ⟨Nat.le_trans h0 hb.size, A, c, h1, h2.below (hb.mono h0), h3⟩
theorem RdV.out (h : RdV w B v X) (o : Out lo hi w w') (hd : B ≤ lo ∨ B ≤ 0) : RdV w' B v X := by
  obtain ⟨h0, A, c, h1, h2, h3⟩ := h
  exact ⟨Nat.le_trans h0 o.size, A, c, h1, h2.below (o.below (by omega) h0), h3⟩
theorem RdV.of_own (h : OwnSS w lo w.heap.size v X) : RdV w w.heap.size v X := by
  obtain ⟨A, c, h1, h2, h3, h4⟩ := h.rd rfl
  exact ⟨Nat.le_refl _, A, c, h1, h2, h3, h4⟩
end
/-- What a model gives back: a slice of slices that reads as X. -/
def FreshRd (X : List (List Int)) (w : World) (e : Ending) (w' : World) : Prop := ∃ v, e = .returned v ∧ RdV w' w'.heap.size v X ∧ Below w.heap.size w w'
end Go.Proofs.YtjhknafajfpldaaDoor

/- A slice of slices of integers whose rows are shared (the models make such), over any world: its outer row is the call's own, what it leads to is only read. And 's[k:]', 's[:k]' at letters. No conditions. -/
namespace Go.Proofs.YtjhknafajfpldaaDoor
open Go.ChangeShapes Go.WideShapes Go.ChangeAt Go.RowKit
/-- The cells of a slice of slices. -/
def Cel (w : World) (B : Nat) (cs : List Value) (X : List (List Int)) : Prop :=
  cs.length = X.length ∧ ∀ (k : Nat) (x : List Int), X[k]? = some x → ∃ Aj cj, cs[k]? = some (.slice Aj x.length cj) ∧ x.length ≤ cj ∧ cj ≤ maxLen ∧ Rd w B Aj (ivs x)
section
variable {w w' : World} {B B' lo hi : Nat} {A : Option Addr} {cs ds : List Value} {X Y : List (List Int)} {v : Value}
theorem Cel.below (h : Cel w B cs X) (hb : Below B w w') : Cel w' B cs X := ⟨h.1, fun k x hx => by
  obtain ⟨Aj, cj, h1, h2, h3, h4⟩ := h.2 k x hx
  exact ⟨Aj, cj, h1, h2, h3, h4.below hb⟩⟩
theorem Cel.more (h : Cel w B cs X) (hB : B ≤ B') : Cel w B' cs X := ⟨h.1, fun k x hx => by
  obtain ⟨Aj, cj, h1, h2, h3, h4⟩ := h.2 k x hx
  exact ⟨Aj, cj, h1, h2, h3, h4.more hB⟩⟩
theorem Cel.new (h : Cel w w.heap.size cs X) (hb : Below w.heap.size w w') : Cel w' w'.heap.size cs X := (h.below hb).more hb.size
theorem Cel.nil : Cel w B [] [] := ⟨rfl, fun k x hx => by simp at hx⟩
theorem Cel.one {x : List Int} {c : Nat} (h : Rd w B A (ivs x)) (h1 : x.length ≤ c) (h2 : c ≤ maxLen) : Cel w B [.slice A x.length c] [x] := ⟨rfl, fun k y hy => by
  cases k with
  | zero => simp at hy; subst hy; exact ⟨A, c, rfl, h1, h2, h⟩
  | succ k => simp at hy⟩
theorem Cel.app (h : Cel w B cs X) (k : Cel w B ds Y) : Cel w B (cs ++ ds) (X ++ Y) := ⟨by rw [List.length_append, List.length_append, h.1, k.1], fun j x hx => by
  by_cases hj : j < X.length
  · rw [List.getElem?_append_left hj] at hx
    rw [List.getElem?_append_left (by rw [h.1]; exact hj)]
    exact h.2 j x hx
  · rw [List.getElem?_append_right (by omega)] at hx
    rw [List.getElem?_append_right (by rw [h.1]; omega), h.1]
    exact k.2 _ x hx⟩
theorem Cel.take (h : Cel w B cs X) (n : Nat) : Cel w B (cs.take n) (X.take n) := ⟨by simp [h.1], fun j x hx => by
  rw [List.getElem?_take] at hx ⊢
  split at hx
  · rename_i hj; rw [if_pos hj]; exact h.2 j x hx
  · cases hx⟩
theorem Cel.drop (h : Cel w B cs X) (n : Nat) : Cel w B (cs.drop n) (X.drop n) := ⟨by simp [h.1], fun j x hx => by
  rw [List.getElem?_drop] at hx ⊢
  exact h.2 _ x hx⟩
theorem Cel.ones (h : Cel w B cs X) : ∀ u ∈ cs, u.oneCell' = true := fun u hu => by
  obtain ⟨j, hj, rfl⟩ := List.getElem_of_mem hu
  have hx : j < X.length := by rw [← h.1]; exact hj
  obtain ⟨Aj, cj, h1, _⟩ := h.2 j X[j] (List.getElem?_eq_getElem hx)
  rw [List.getElem?_eq_getElem hj] at h1
  injection h1 with h1
  rw [h1]; rfl
theorem Cel.rd (h : Cel w B cs X) (hr : Rd w B A cs) : RdSS w B A X := fun k x hx => by
  obtain ⟨Aj, cj, h1, h2, h3, h4⟩ := h.2 k x hx
  obtain ⟨ad, e, hb, hc⟩ := hr k _ h1
  exact ⟨ad, Aj, cj, e, hb, hc, h2, h3, h4⟩
/-- The outer row is the call's own; what it leads to is read below hi. -/
def SetsR (w : World) (lo hi : Nat) (v : Value) (X : List (List Int)) : Prop := ∃ cs, Row w lo hi 27 v cs ∧ Cel w hi cs X
theorem SetsR.new (h : SetsR w lo w.heap.size v X) (hb : Below w.heap.size w w') : SetsR w' lo w'.heap.size v X := by
  obtain ⟨cs, h1, h2⟩ := h
  exact ⟨cs, (h1.new hb).wide (Nat.le_refl _) hb.size, h2.new hb⟩
theorem SetsR.rdv (h : SetsR w lo w.heap.size v X) : RdV w w.heap.size v X := by
  obtain ⟨cs, h1, h2⟩ := h
  obtain ⟨A, c, rfl, hr, hc, hm⟩ := h1.rd rfl
  rw [h2.1] at hc ⊢
  exact ⟨Nat.le_refl _, A, c, rfl, h2.rd hr, hc, hm⟩
theorem SetsR.made (w : World) (lo : Nat) (hlo : lo ≤ w.heap.size) : SetsR (w.alloc (.cells #[] 27)) lo (w.heap.size + 1) (.slice (some ⟨w.heap.size, 0, none⟩) 0 0) [] :=
  ⟨[], Row.made lo #[] 0 27 hlo rfl (Nat.zero_le _), Cel.nil⟩
end
/-- The address of 's[k:]'. -/
def tlA (A : Option Addr) (k c : Nat) : Option Addr := if c = k then A else A.map (·.add k)
theorem Rd.tl {w : World} {B k c : Nat} {A : Option Addr} {xs : List Value} (h : Rd w B A xs) (hc : xs.length ≤ c) : Rd w B (tlA A k c) (xs.drop k) := fun j u hu => by
  unfold tlA
  rw [List.getElem?_drop] at hu
  by_cases e : c = k
  · rw [List.getElem?_eq_none (by omega)] at hu; cases hu
  · obtain ⟨ad, rfl, hb, hc'⟩ := h _ u hu
    rw [if_neg e]
    refine ⟨ad.add k, rfl, by rw [add_blk]; exact hb, ?_⟩
    have e1 : (ad.add k).add j = ad.add (k + j) := by
      unfold Addr.add
      by_cases hi : k = 0 <;> by_cases hj : j = 0 <;> simp [hi, hj, Nat.add_assoc]
    rw [e1]; exact hc'
theorem Rd.hd {w : World} {B k : Nat} {A : Option Addr} {xs : List Value} (h : Rd w B A xs) : Rd w B A (xs.take k) := fun j u hu => by
  rw [List.getElem?_take] at hu
  split at hu
  · exact h j u hu
  · cases hu
theorem run_from {P : Program} (W : World) (t e : TypeId) (ht : P.underlying t = some (.slice e)) (hz : ∀ w, (Go.sizeOf e).run P w = .ok 1 w) (A : Option Addr) {n c k : Nat} (h1 : k ≤ n) (_h2 : n ≤ c) :
    (Instr.slice t (.slice A n c) (some (.int .i64 (k : Int))) none none).run P W = .ok (.slice (tlA A k c) (n - k) (c - k)) W := by
  have ht' : P.underlying t = some (.slice (P.elem t)) := by simp [Program.elem, ht]
  have he : P.elem t = e := by simp [Program.elem, ht]
  rw [run_slice_l W t _ _ _ ht' .i64 _ (by omega) (by omega), he, hz]
  unfold tlA
  by_cases h0 : c = k
  · simp [Result.andThen, sliced, h0]
  · simp [Result.andThen, sliced, h0]
theorem run_to {P : Program} (W : World) (t e : TypeId) (ht : P.underlying t = some (.slice e)) (hz : ∀ w, (Go.sizeOf e).run P w = .ok 1 w) (A : Option Addr) {n c k : Nat} (h1 : k ≤ c) :
    (Instr.slice t (.slice A n c) none (some (.int .i64 (k : Int))) none).run P W = .ok (.slice A k c) W := by
  have ht' : P.underlying t = some (.slice (P.elem t)) := by simp [Program.elem, ht]
  have he : P.elem t = e := by simp [Program.elem, ht]
  rw [run_slice_h W t _ _ _ ht' .i64 _ (by omega) (by omega), he, hz]
  by_cases h0 : c = 0
  · simp [Result.andThen, sliced, h0]
  · cases A <;> simp [Result.andThen, sliced, h0, Addr.add]
/-- A row of one block is read on while other blocks turn. -/
theorem Rd.out1 {w w' : World} {B g lo hi : Nat} {xs : List Value} (h : Rd w B (some ⟨g, 0, none⟩) xs) (o : Out lo hi w w') (hg : g < w.heap.size) (hd : g < lo ∨ hi ≤ g) : Rd w' w'.heap.size (some ⟨g, 0, none⟩) xs := fun j u hu => by
  obtain ⟨ad, e, _, hc⟩ := h j u hu
  injection e with e
  subst e
  refine ⟨_, rfl, Nat.lt_of_lt_of_le hg o.size, ?_⟩
  have hb : ((⟨g, 0, none⟩ : Addr).add j).block = g := add_blk _ _
  exact (World.cell?_of_block (o.block _ (by rw [hb]; exact hg) (by rw [hb]; exact hd))).trans hc
/-- The same, what it leads to read below lo; or still a slice without room: whatever is appended makes a new row. -/
def SetsZ (w : World) (lo : Nat) (v : Value) (X : List (List Int)) : Prop := (∃ ad, v = .slice (some ad) 0 0 ∧ X = []) ∨ ∃ cs, Row w lo w.heap.size 27 v cs ∧ Cel w lo cs X
theorem SetsZ.new {w w' : World} {lo : Nat} {v : Value} {X : List (List Int)} (h : SetsZ w lo v X) (hb : Below w.heap.size w w') (hlo : lo ≤ w.heap.size) : SetsZ w' lo v X := by
  rcases h with h | ⟨cs, h1, h2⟩
  · exact .inl h
  · exact .inr ⟨cs, (h1.new hb).wide (Nat.le_refl _) hb.size, h2.below (hb.mono hlo)⟩
theorem SetsZ.rdv {w : World} {lo : Nat} {v : Value} {X : List (List Int)} (h : SetsZ w lo v X) (hlo : lo ≤ w.heap.size) : RdV w w.heap.size v X := by
  rcases h with ⟨ad, rfl, rfl⟩ | ⟨cs, h1, h2⟩
  · exact ⟨Nat.le_refl _, some ad, 0, rfl, fun k x hx => by simp at hx, Nat.le_refl _, Nat.zero_le _⟩
  · exact SetsR.rdv ⟨cs, h1, h2.more hlo⟩
theorem wpList_appSets {w : World} {ops : Array Oper} {rest : List Oper} {o : Oper} {a : Act} {Q : Exit → Act → World → Prop} (hgd : o.guard = none) (s x : Operand)
    (ho : o.op = .call { callee := .builtin .append, args := #[s, x], argTypes := #[24, 24] })
    {lo g xl cj : Nat} {v : Value} {X : List (List Int)} {y : List Int} {Aj : Option Addr} (h : SetsZ w lo v X) (hs : a.eval s = v) (hx : a.eval x = .slice (some ⟨g, 0, none⟩) 1 1) (hg : w.heap[g]? = some (.cells #[.slice Aj xl cj] 27 (0, 0)))
    (hxl : y.length = xl) (hc : xl ≤ cj) (hcm : cj ≤ maxLen) (hr : Rd w lo Aj (ivs y)) (hn : X.length ≤ 1048576) (hlo : lo ≤ w.heap.size)
    (K : ∀ v' w', SetsZ w' lo v' (X ++ [y]) → Below lo w w' → w.heap.size ≤ w'.heap.size → wpList Tryd.prog ops Q rest (a.put o.dst v') w') : wpList Tryd.prog ops Q (o :: rest) a w := by
  obtain ⟨je, hje, hy0, hy1, hy2⟩ := info_parts IntSS_info
  have hcell : ∀ (j : Nat) (u : Value), [Value.slice Aj xl cj][j]? = some u → w.cell? ((⟨g, 0, none⟩ : Addr).add j) = some u := fun j u hu => by
    cases j with
    | zero =>
      simp at hu
      subst hu
      show w.cell? ⟨g, 0, none⟩ = _
      rw [cell_of_row w g 0 _ 27 (0, 0) hg]; rfl
    | succ j => simp at hu
  have one : Cel w lo [Value.slice Aj xl cj] [y] := by
    have := Cel.one (c := cj) hr (by rw [hxl]; exact hc) hcm
    rw [hxl] at this; exact this
  have key : ∃ v' w', (Builtin.append_ #[24, 24] o.type #[v, .slice (some ⟨g, 0, none⟩) 1 1]).run Tryd.prog w = .ok v' w' ∧ SetsZ w' lo v' (X ++ [y]) ∧ Below lo w w' := by
    rcases h with ⟨ad, rfl, rfl⟩ | ⟨cs, hrow, hcel⟩
    · have hrun := run_append_grow (P := Tryd.prog) w 24 o.type 27 je _ Tryd.underlying24 hje hy0 ad 0 0 [] (by simp) (by simp) ⟨g, 0, none⟩ 1 1 [Value.slice Aj xl cj] (by rw [hy1]; rfl) hcell (by omega) (by omega) (growslice_fits (by omega) (by rw [hy2]; omega))
      have hG1 := grownCap_ge w 1 0 27
      have hG2 := grownCap_le_maxLen w 1 0 27 (by unfold maxLen; omega)
      simp only [Nat.zero_add, List.nil_append, Array.empty_append] at hrun ⊢
      generalize grownCap w 1 0 27 = G at hrun hG1 hG2
      have hb : Below w.heap.size w (w.drew.alloc (.cells (([] : List Value).toArray ++ [Value.slice Aj xl cj].toArray ++ Builtin.zeroCells (Value.slice none 0 0).cells (G - 1)) 27)) := ((Below.refl _ _).drew).alloc (Nat.le_refl _) _
      refine ⟨_, _, hrun, .inr ⟨[Value.slice Aj xl cj], ⟨⟨rfl, .inr ⟨w.heap.size, G, _, rfl, hlo, heap_alloc_new w.drew _, hG1, hG2, ?_, ?_⟩⟩, fun b hb => by simp [Value.ownBlock] at hb; simp; omega⟩, one.below (hb.mono hlo)⟩, hb.mono hlo⟩
      · simp [Builtin.zeroCells, Value.cells]; omega
      · simp
    · have hl := hcel.1
      obtain ⟨v', w', hrun, h2, h3⟩ := run_app (P := Tryd.prog) 24 o.type 27 je _ 24 Tryd.underlying24 hje hy0 hy1 hy2 rfl (c := 1) hrow rfl (fun j u hu => ⟨_, rfl, Nat.lt_succ_of_le (Nat.le_of_eq rfl), hcell j u hu⟩ : Rd w (g + 1) (some ⟨g, 0, none⟩) [Value.slice Aj xl cj]) (by simp [Value.oneCell']) (by simp only [List.length_singleton]; unfold maxLen; omega) (by simp only [List.length_singleton]; omega) hlo
      have hcut : Below lo w w' := h3.below (Nat.le_refl _) hlo
      exact ⟨v', w', hrun, .inr ⟨_, h2, (hcel.app one).below hcut⟩, hcut⟩
  obtain ⟨v', w', hrun, h2, h3⟩ := key
  refine wpList_plain hgd fun K' hK' => ?_
  unfold Oper.wp
  simp [execOp, ho, resolve, invoke, builtin, hs, hx, hrun, Result.andThen]
  exact hK' _ _ (K v' w' h2 h3 h3.size)
end Go.Proofs.YtjhknafajfpldaaDoor

/- A list of lists that the call owns, kept in part: its elements moved down in place (slices.Delete, slices.DeleteFunc); and many appended at once. No conditions. -/
namespace Go.Proofs.YtjhknafajfpldaaDoor
open Go.ChangeShapes Go.WideShapes Go.ChangeAt Go.RowKit
theorem flat_sub {es es' : List (List Nat × List Value)} (h : List.Sublist es' es) : List.Sublist (es'.flatMap (·.1)) (es.flatMap (·.1)) := by
  induction h with
  | slnil => exact List.Sublist.refl _
  | cons a h ih => rw [List.flatMap_cons]; exact ih.trans (List.sublist_append_right _ _)
  | cons_cons a h ih => rw [List.flatMap_cons, List.flatMap_cons]; exact (List.append_sublist_append_left _).2 ih
theorem one_hd {p : List Value} (h : p.length = 1) : p = [p.headD undef] := by
  match p, h with
  | [u], _ => rfl
theorem flat_hd {es : List (List Nat × List Value)} (h : ∀ p ∈ es, p.2.length = 1) : es.flatMap (·.2) = es.map fun p => p.2.headD undef := by
  induction es with
  | nil => rfl
  | cons p es ih =>
    rw [List.flatMap_cons, List.map_cons, ih (fun q hq => h q (List.mem_cons_of_mem _ hq)), one_hd (h p List.mem_cons_self)]
    rfl
theorem OwnSS.pick {w : World} {lo hi g n c : Nat} {X : List (List Int)} (h : OwnSS w lo hi (.slice (some ⟨g, 0, none⟩) n c) X) (hn : X.length = n) :
    ∃ (us : List Value) (cur : Array Value), us.length = n ∧ w.heap[g]? = some (.cells cur 27 (0, 0)) ∧ n ≤ c ∧ c ≤ maxLen ∧ cur.size = c ∧ cur.toList.take n = us ∧ lo ≤ g ∧ g < hi ∧ (∀ u ∈ us, u.oneCell' = true) ∧
      (∀ (j : Nat) (x : List Int), X[j]? = some x → ∃ (Aj : Option Addr) (cj : Nat), us[j]? = some (.slice Aj x.length cj) ∧ x.length ≤ cj ∧ cj ≤ maxLen ∧ ∀ w' : World, (∀ b, b < w.heap.size → b ≠ g → w'.heap[b]? = w.heap[b]?) → w.heap.size ≤ w'.heap.size → Rd w' w'.heap.size Aj (ivs x)) ∧
      ∀ (w' : World) (Q : List (Value × List Int)), List.Sublist Q (us.zip X) → (∀ b, b < w.heap.size → b ≠ g → w'.heap[b]? = w.heap[b]?) → (∃ cur', w'.heap[g]? = some (.cells cur' 27 (0, 0)) ∧ cur'.size = c ∧ cur'.toList.take Q.length = Q.map (·.1)) → OwnSS w' lo hi (.slice (some ⟨g, 0, none⟩) Q.length c) (Q.map (·.2)) := by
  obtain ⟨F, hrow, hFn, hF⟩ := h
  have hFlt := SSR_frames.lt hrow
  obtain ⟨v0, es, a1, a2, a3, a4, a5, a6, a7⟩ := hrow
  have hv : v0 = .slice (some ⟨g, 0, none⟩) n c := by simpa using a1.symm
  subst hv
  have hflat := flat_hd a6
  have hlenu : (es.map fun p => p.2.headD undef).length = n := by rw [List.length_map, a2, hn]
  obtain ⟨b1, b2⟩ := a3
  rcases b2 with ⟨hnil, _⟩ | ⟨g', cap, cur, hv, _, hgg, hnc, hcm, hcs, htk⟩
  · cases hnil
  injection hv with e1 e2 e3
  injection e1 with e1
  injection e1 with e1
  subst e1 e3
  rw [a4] at a5
  have hgF : g ∈ F := by rw [a4]; simp [Value.ownBlock]
  have hnot : g ∉ es.flatMap (·.1) := fun hin => (List.nodup_append.1 a5).2.2 g (by simp [Value.ownBlock]) g hin rfl
  rw [Nat.mul_one] at hcs htk
  rw [hn] at htk hnc
  refine ⟨es.map fun p => p.2.headD undef, cur, hlenu, hgg, hnc, hcm, hcs, by rw [htk, hflat], (hF g hgF).1, (hF g hgF).2, fun u hu => ?_, fun j x hx => ?_, fun w' Q hQ hk ⟨cur', k1, k2, k3⟩ => ?_⟩
  · obtain ⟨p, hp, rfl⟩ := List.mem_map.1 hu
    obtain ⟨i, hi, rfl⟩ := List.getElem_of_mem hp
    have hiX : i < X.length := by omega
    obtain ⟨u, h1, h2, _⟩ := a7 i es[i] X[i] (List.getElem?_eq_getElem hi) (List.getElem?_eq_getElem hiX)
    have e0 := one_hd (a6 _ (List.getElem_mem hi))
    rw [h1] at e0
    have : u = (es[i].2).headD undef := by rw [h1]; rfl
    rw [← this]
    rcases h2.2 with ⟨rfl, _⟩ | ⟨g2, cap2, cur2, rfl, _⟩ <;> rfl
  · have hjX : j < X.length := (List.getElem?_eq_some_iff.1 hx).1
    have hj : j < es.length := by omega
    obtain ⟨u, h1, h2, h3⟩ := a7 j es[j] x (List.getElem?_eq_getElem hj) hx
    obtain ⟨Aj, cj, hu, m1, m2⟩ := ownsRow_form h2
    subst hu
    refine ⟨Aj, cj, by rw [List.getElem?_map, List.getElem?_eq_getElem hj, Option.map_some, h1]; rfl, m1, m2, fun w' hk hsz => ?_⟩
    have hin : ∀ b, (Value.slice Aj x.length cj).ownBlock = some b → b ∈ es.flatMap (·.1) := fun b hb => mem_flat1 (List.getElem?_eq_getElem hj) (by rw [h3, hb]; simp)
    have h2' := ownsRow_keep (w' := w') h2 (fun b hb => hk b (hFlt b (by rw [a4]; exact List.mem_append_right _ (hin b hb))) (fun e => by subst e; exact hnot (hin b hb)))
    have hr : Row w' 0 w'.heap.size 3 (.slice Aj x.length cj) (ivs x) := ⟨by rw [ivs_len]; exact h2', fun b hb => by have := hFlt b (by rw [a4]; exact List.mem_append_right _ (hin b hb)); omega⟩
    exact hr.rd'
  · have hz : (es.map fun p => p.2.headD undef).zip X = (es.zip X).map fun q => (q.1.2.headD undef, q.2) := by
      rw [List.zip_map_left]
      rfl
    rw [hz, List.sublist_map_iff] at hQ
    obtain ⟨Q', hQ', rfl⟩ := hQ
    have hsub : List.Sublist (Q'.map (·.1)) es := by
      have := hQ'.map (·.1)
      rwa [List.map_fst_zip (by omega)] at this
    have hmem : ∀ p ∈ Q'.map (·.1), p ∈ es := fun p hp => hsub.subset hp
    have hfs := flat_sub hsub
    have hnd : ([g] ++ (Q'.map (·.1)).flatMap (·.1)).Nodup := List.nodup_append.2 ⟨by simp, (List.nodup_append.1 a5).2.1.sublist hfs, fun a ha b hb hab => by
      have : a = g := by simpa using ha
      subst this
      subst hab
      exact hnot (hfs.subset hb)⟩
    simp only [List.map_map, List.length_map] at k3 ⊢
    have hX' : (Q'.map ((fun x => x.2) ∘ fun q => (q.1.2.headD undef, q.2))) = Q'.map (·.2) := rfl
    rw [hX']
    refine ⟨[g] ++ (Q'.map (·.1)).flatMap (·.1), ⟨.slice (some ⟨g, 0, none⟩) Q'.length c, Q'.map (·.1), rfl, by simp, ?_, rfl, hnd, fun p hp => a6 p (hmem p hp), fun i p x hp hx => ?_⟩, hnd, fun b hb => ?_⟩
    · have hfl : (Q'.map (·.1)).flatMap (·.2) = Q'.map fun q => q.1.2.headD undef := by
        rw [flat_hd (fun p hp => a6 p (hmem p hp)), List.map_map]
        rfl
      refine ⟨by rw [hfl]; simp, .inr ⟨g, c, cur', by simp, Nat.zero_le _, k1, ?_, hcm, by rw [Nat.mul_one]; exact k2, ?_⟩⟩
      · have h1 := hQ'.length_le
        rw [List.length_zip] at h1
        rw [List.length_map]
        omega
      · rw [hfl, Nat.mul_one, List.length_map]
        exact k3
    · rw [List.getElem?_map] at hp hx
      cases hq : Q'[i]? with
      | none => rw [hq] at hp; cases hp
      | some q =>
        rw [hq] at hp hx
        simp at hp hx
        subst hp hx
        obtain ⟨j, hj⟩ := List.getElem?_of_mem (hQ'.subset (List.mem_of_getElem? hq))
        obtain ⟨j1, j2⟩ := List.getElem?_zip_eq_some.1 hj
        refine (IntsR.frames _ _).keep (a7 j q.1 q.2 j1 j2) (fun b hb => hk b (hFlt b (by rw [a4]; exact List.mem_append_right _ (mem_flat1 j1 hb))) (fun e => ?_))
        subst e
        exact hnot (mem_flat1 j1 hb)
    · rw [List.mem_append] at hb
      refine hF b ?_
      rw [a4]
      rcases hb with hb | hb
      · exact List.mem_append_left _ (by simpa [Value.ownBlock] using hb)
      · exact List.mem_append_right _ (hfs.subset hb)
/-- A block after many stores. -/
def putA (cs : Array Value) (o : Nat) : List Value → Array Value
  | [] => cs
  | v :: r => putA (cs.setIfInBounds o v) (o + 1) r
theorem putA_size : ∀ (vs : List Value) (o : Nat) (cs : Array Value), (putA cs o vs).size = cs.size
  | [], _, _ => rfl
  | v :: r, o, cs => by
    show (putA (cs.setIfInBounds o v) (o + 1) r).size = _
    rw [putA_size r]; simp
theorem putA_list : ∀ (vs : List Value) (o : Nat) (cs : Array Value), o + vs.length ≤ cs.size → (putA cs o vs).toList = cs.toList.take o ++ vs ++ cs.toList.drop (o + vs.length)
  | [], o, cs, _ => by simp [putA]
  | v :: r, o, cs, h => by
    simp only [List.length_cons] at h
    show (putA (cs.setIfInBounds o v) (o + 1) r).toList = _
    rw [putA_list r (o + 1) _ (by simp; omega), Array.toList_setIfInBounds]
    have ho : o < cs.toList.length := by simp; omega
    have e1 : (cs.toList.set o v).take (o + 1) = cs.toList.take o ++ [v] := by
      have hl : (cs.toList.take o).length = o := by rw [List.length_take]; omega
      rw [List.set_eq_take_append_cons_drop, if_pos ho, List.take_append, List.take_of_length_le (by omega), hl, show o + 1 - o = 1 by omega]
      rfl
    have e2 : (cs.toList.set o v).drop (o + 1 + r.length) = cs.toList.drop (o + 1 + r.length) := by rw [List.drop_set_of_lt (by omega)]
    rw [e1, e2]
    simp [Nat.add_comm, Nat.add_left_comm]
theorem Bx.setCells {g : Nat} {t : TypeId} : ∀ (vs : List Value) (o : Nat) (w : World) (cs : Array Value), Bx w g t cs → Bx (w.setCells g o vs) g t (putA cs o vs)
  | [], _, _, _, h => h
  | v :: r, o, _, _, h => Bx.setCells r (o + 1) _ _ (h.set o v)
theorem setCells_size (g : Nat) : ∀ (vs : List Value) (o : Nat) (w : World), (w.setCells g o vs).heap.size = w.heap.size
  | [], _, _ => rfl
  | v :: r, o, w => (setCells_size g r (o + 1) _).trans (by simp)
theorem Out.cell1 (w : World) (g o : Nat) (v : Value) : Out g (g + 1) w (w.setCell ⟨g, o, none⟩ v) :=
  ⟨rfl, rfl, rfl, by simp, fun k _ hk => heap_setCell_other w ⟨g, o, none⟩ k v (by show k ≠ g; omega)⟩
theorem Out.setCells (g : Nat) : ∀ (vs : List Value) (o : Nat) (w : World), Out g (g + 1) w (w.setCells g o vs)
  | [], _, _ => Out.refl
  | v :: r, o, w => (Out.cell1 w g o v).trans (Out.setCells g r (o + 1) _)
end Go.Proofs.YtjhknafajfpldaaDoor
