/- Contracts of the code's rows of attacks (attackRows, claimBits). Conditions: claims below 10, rows below 2^16. -/
import Derived.Test.YtignchefkihdaaaMg10
import Derived.Test.YtignchefkihdaaaMg2
import Derived.Test.YtignchefkihdaaaMg8
import Derived.Test.YtignchefkihdaaaMg7
import Derived.Laws.BitsAllLaws
import Derived.Laws.Tables
import Derived.IntWalk
import Derived.Test.YtignchefkihdaaaMg6
import Derived.Laws.IdiomCopy
namespace Go.Proofs.Ytignchefkihdaaa
open Go.ChangeShapes Go.WideShapes Go.ChangeAt Go.RowKit
/-- The cells of a value of type attackRows. -/
def arC (n : Int) (f : Nat → Nat) : Array Value := #[.int .i64 n, .int .u16 (f 0 : Nat), .int .u16 (f 1 : Nat), .int .u16 (f 2 : Nat), .int .u16 (f 3 : Nat), .int .u16 (f 4 : Nat), .int .u16 (f 5 : Nat), .int .u16 (f 6 : Nat), .int .u16 (f 7 : Nat), .int .u16 (f 8 : Nat), .int .u16 (f 9 : Nat)]
def upd (f : Nat → Nat) (a b : Nat) : Nat → Nat := fun k => if k = a then f k ||| 2 ^ b else f k
theorem lt10 {a : Nat} (h : a < 10) : a = 0 ∨ a = 1 ∨ a = 2 ∨ a = 3 ∨ a = 4 ∨ a = 5 ∨ a = 6 ∨ a = 7 ∨ a = 8 ∨ a = 9 := by omega
theorem arC_at (n : Int) (f : Nat → Nat) {a : Nat} (ha : a < 10) : (arC n f)[1 + a]? = some (.int .u16 (f a : Nat)) := by
  rcases lt10 ha with rfl | rfl | rfl | rfl | rfl | rfl | rfl | rfl | rfl | rfl <;> rfl
theorem arC_upd (n : Int) (f : Nat → Nat) {a : Nat} (ha : a < 10) (b : Nat) : (arC n f).setIfInBounds (1 + a) (.int .u16 ((f a ||| 2 ^ b : Nat) : Int)) = arC n (upd f a b) := by
  rcases lt10 ha with rfl | rfl | rfl | rfl | rfl | rfl | rfl | rfl | rfl | rfl <;> simp [arC, upd]
theorem arC_zero : #[Value.int .i64 0, .int .u16 0, .int .u16 0, .int .u16 0, .int .u16 0, .int .u16 0, .int .u16 0, .int .u16 0, .int .u16 0, .int .u16 0, .int .u16 0] = arC 0 fun _ => 0 := rfl
theorem arC_one (n : Int) (f : Nat → Nat) : ∀ v ∈ (arC n f).toList, v.oneCell' = true := by simp [arC, Value.oneCell']
section
variable {P : Program} {w w' : World} {g : Nat} {t : TypeId} {cs cs' : Array Value}
theorem Bx.at_ (h : Bx w g t cs) {k : Nat} {v : Value} (hk : cs[k]? = some v) : w.cell? ⟨g, k, none⟩ = some v := by
  rw [cell_of_row w g k cs t (0, 0) h]; exact hk
theorem Bx.free (h : Bx w g t cs) (k : Nat) : w.frozen? ⟨g, k, none⟩ = false := frozen_of_row w g k cs t h
theorem Bx.set (h : Bx w g t cs) (k : Nat) (u : Value) : Bx (w.setCell ⟨g, k, none⟩ u) g t (cs.setIfInBounds k u) := heap_setCell_same w g k cs t u h
theorem Bx.drew_ (h : Bx w g t cs) : Bx w.drew g t cs := h
theorem Bx.far (h : Bx w g t cs) {p : Addr} (hp : g ≠ p.block) (u : Value) : Bx (w.setCell p u) g t cs := (Below.heap_setCell w p u g hp).trans h
/-- The whole block is loaded. -/
theorem Bx.load (h : Bx w g t cs) {n : Nat} (hn : cs.size = n) : (loadCellsFrom ⟨g, 0, none⟩ 0 n #[]).run P w = .ok cs w := by
  subst hn
  have := run_loadCells_list (P := P) w ⟨g, 0, none⟩ cs.toList (fun j v hv => by
    have hadd : (⟨g, 0, none⟩ : Addr).add j = ⟨g, j, none⟩ := by unfold Addr.add; split <;> simp_all
    rw [hadd, cell_of_row _ _ j cs t (0, 0) h]
    simpa using hv)
  simpa [loadCells] using this
theorem setRow_out (w : World) (g : Nat) (cs : Array Value) {lo hi : Nat} (h1 : lo ≤ g) (h2 : g < hi) : Out lo hi w (w.setRow g cs) :=
  ⟨rfl, rfl, rfl, by simp [World.setRow], fun k _ hk => by
    have : g ≠ k := by omega
    simp [World.setRow, Array.getElem?_modify, this]⟩
theorem Bx.setRow (h : Bx w g t cs) (cs' : Array Value) : Bx (w.setRow g cs') g t cs' := by
  have hlt := h.lt
  have h' : w.heap[g] = .cells cs t (0, 0) := by simpa [Bx, Array.getElem?_eq_getElem hlt] using h
  show (w.heap.modify g _)[g]? = _
  rw [Array.getElem?_eq_getElem (by simpa using hlt), Array.getElem_modify_self, h']
/-- The whole block is stored. -/
theorem Bx.store (h : Bx w g t cs) (hs : cs'.size = cs.size) (h1 : ∀ v ∈ cs'.toList, v.oneCell' = true) : (storeCells ⟨g, 0, none⟩ cs'.toList 0).run P w = .ok () (w.setRow g cs') := by
  have := run_storeCells_from (P := P) g t cs'.toList 0 cs w h (by simpa using hs) h1
  simpa using this
end
section
variable {w : World} {ops : Array Oper} {rest : List Oper} {o : Oper} {a : Act} {Q : Exit → Act → World → Prop} {cs : Array Value}
end
theorem or_bit {x b : Nat} (hx : x < 65536) (hb : b < 10) : bits .or .u16 (x : Int) (IntKind.u16.wrap (2 ^ b)) = ((x ||| 2 ^ b : Nat) : Int) := by
  have e : IntKind.u16.wrap (2 ^ b) = ((2 ^ b : Nat) : Int) := by
    rcases lt10 hb with rfl | rfl | rfl | rfl | rfl | rfl | rfl | rfl | rfl | rfl <;> rfl
  rw [e, u16_or_nat _ _ hx (Nat.lt_of_lt_of_le (Nat.pow_lt_pow_right (by omega) hb) (by decide))]
theorem has_bit (x k : Nat) (hx : x < 65536) : (bits .and .u16 ((x : Int) / 2 ^ k) 1 == 1) = x.testBit k := by
  have e : ((x : Int) / 2 ^ k) = ((x / 2 ^ k : Nat) : Int) := by push_cast; rfl
  have hl : x / 2 ^ k < 65536 := Nat.lt_of_le_of_lt (Nat.div_le_self _ _) hx
  rw [e, show (1 : Int) = ((1 : Nat) : Int) from rfl, u16_and_nat _ _ hl (by omega), Nat.and_one_is_mod, Nat.testBit_eq_decide_div_mod_eq]
  by_cases h : x / 2 ^ k % 2 = 1
  · rw [h]; simp
  · simp [h]
    omega
end Go.Proofs.Ytignchefkihdaaa

/- A list of lists that the call owns, kept in part: its elements moved down in place (slices.Delete, slices.DeleteFunc); and many appended at once. No conditions. -/
namespace Go.Proofs.Ytignchefkihdaaa
open Go.ChangeShapes Go.WideShapes Go.ChangeAt Go.RowKit
theorem flat_sub {es es' : List (List Nat × List Value)} (h : List.Sublist es' es) : List.Sublist (es'.flatMap (·.1)) (es.flatMap (·.1)) := by
  induction h with
  | slnil => exact List.Sublist.refl _
  | cons a h ih => rw [List.flatMap_cons]; exact ih.trans (List.sublist_append_right _ _)
  | cons_cons a h ih => rw [List.flatMap_cons, List.flatMap_cons]; exact (List.append_sublist_append_left _).2 ih
theorem one_hd {p : List Value} (h : p.length = 1) : p = [p.headD undef] := by
  match p, h with
  | [u], _ => rfl
theorem flat_hd {es : List (List Nat × List Value)} (h : ∀ p ∈ es, p.2.length = 1) : es.flatMap (·.2) = es.map fun p => p.2.headD undef := by
  induction es with
  | nil => rfl
  | cons p es ih =>
    rw [List.flatMap_cons, List.map_cons, ih (fun q hq => h q (List.mem_cons_of_mem _ hq)), one_hd (h p List.mem_cons_self)]
    rfl
theorem OwnSS.pick {w : World} {lo hi g n c : Nat} {X : List (List Int)} (h : OwnSS w lo hi (.slice (some ⟨g, 0, none⟩) n c) X) (hn : X.length = n) :
    ∃ (us : List Value) (cur : Array Value), us.length = n ∧ w.heap[g]? = some (.cells cur 25 (0, 0)) ∧ n ≤ c ∧ c ≤ maxLen ∧ cur.size = c ∧ cur.toList.take n = us ∧ lo ≤ g ∧ g < hi ∧ (∀ u ∈ us, u.oneCell' = true) ∧
      (∀ (j : Nat) (x : List Int), X[j]? = some x → ∃ (Aj : Option Addr) (cj : Nat), us[j]? = some (.slice Aj x.length cj) ∧ x.length ≤ cj ∧ cj ≤ maxLen ∧ ∀ w' : World, (∀ b, b < w.heap.size → b ≠ g → w'.heap[b]? = w.heap[b]?) → w.heap.size ≤ w'.heap.size → Rd w' w'.heap.size Aj (ivs x)) ∧
      ∀ (w' : World) (Q : List (Value × List Int)), List.Sublist Q (us.zip X) → (∀ b, b < w.heap.size → b ≠ g → w'.heap[b]? = w.heap[b]?) → (∃ cur', w'.heap[g]? = some (.cells cur' 25 (0, 0)) ∧ cur'.size = c ∧ cur'.toList.take Q.length = Q.map (·.1)) → OwnSS w' lo hi (.slice (some ⟨g, 0, none⟩) Q.length c) (Q.map (·.2)) := by
  obtain ⟨F, hrow, hFn, hF⟩ := h
  have hFlt := SSR_frames.lt hrow
  obtain ⟨v0, es, a1, a2, a3, a4, a5, a6, a7⟩ := hrow
  have hv : v0 = .slice (some ⟨g, 0, none⟩) n c := by simpa using a1.symm
  subst hv
  have hflat := flat_hd a6
  have hlenu : (es.map fun p => p.2.headD undef).length = n := by rw [List.length_map, a2, hn]
  obtain ⟨b1, b2⟩ := a3
  rcases b2 with ⟨hnil, _⟩ | ⟨g', cap, cur, hv, _, hgg, hnc, hcm, hcs, htk⟩
  · cases hnil
  injection hv with e1 e2 e3
  injection e1 with e1
  injection e1 with e1
  subst e1 e3
  rw [a4] at a5
  have hgF : g ∈ F := by rw [a4]; simp [Value.ownBlock]
  have hnot : g ∉ es.flatMap (·.1) := fun hin => (List.nodup_append.1 a5).2.2 g (by simp [Value.ownBlock]) g hin rfl
  rw [Nat.mul_one] at hcs htk
  rw [hn] at htk hnc
  refine ⟨es.map fun p => p.2.headD undef, cur, hlenu, hgg, hnc, hcm, hcs, by rw [htk, hflat], (hF g hgF).1, (hF g hgF).2, fun u hu => ?_, fun j x hx => ?_, fun w' Q hQ hk ⟨cur', k1, k2, k3⟩ => ?_⟩
  · obtain ⟨p, hp, rfl⟩ := List.mem_map.1 hu
    obtain ⟨i, hi, rfl⟩ := List.getElem_of_mem hp
    have hiX : i < X.length := by omega
    obtain ⟨u, h1, h2, _⟩ := a7 i es[i] X[i] (List.getElem?_eq_getElem hi) (List.getElem?_eq_getElem hiX)
    have e0 := one_hd (a6 _ (List.getElem_mem hi))
    rw [h1] at e0
    have : u = (es[i].2).headD undef := by rw [h1]; rfl
    rw [← this]
    rcases h2.2 with ⟨rfl, _⟩ | ⟨g2, cap2, cur2, rfl, _⟩ <;> rfl
  · have hjX : j < X.length := (List.getElem?_eq_some_iff.1 hx).1
    have hj : j < es.length := by omega
    obtain ⟨u, h1, h2, h3⟩ := a7 j es[j] x (List.getElem?_eq_getElem hj) hx
    obtain ⟨Aj, cj, hu, m1, m2⟩ := ownsRow_form h2
    subst hu
    refine ⟨Aj, cj, by rw [List.getElem?_map, List.getElem?_eq_getElem hj, Option.map_some, h1]; rfl, m1, m2, fun w' hk hsz => ?_⟩
    have hin : ∀ b, (Value.slice Aj x.length cj).ownBlock = some b → b ∈ es.flatMap (·.1) := fun b hb => mem_flat1 (List.getElem?_eq_getElem hj) (by rw [h3, hb]; simp)
    have h2' := ownsRow_keep (w' := w') h2 (fun b hb => hk b (hFlt b (by rw [a4]; exact List.mem_append_right _ (hin b hb))) (fun e => by subst e; exact hnot (hin b hb)))
    have hr : Row w' 0 w'.heap.size 3 (.slice Aj x.length cj) (ivs x) := ⟨by rw [ivs_len]; exact h2', fun b hb => by have := hFlt b (by rw [a4]; exact List.mem_append_right _ (hin b hb)); omega⟩
    exact hr.rd'
  · have hz : (es.map fun p => p.2.headD undef).zip X = (es.zip X).map fun q => (q.1.2.headD undef, q.2) := by
      rw [List.zip_map_left]
      rfl
    rw [hz, List.sublist_map_iff] at hQ
    obtain ⟨Q', hQ', rfl⟩ := hQ
    have hsub : List.Sublist (Q'.map (·.1)) es := by
      have := hQ'.map (·.1)
      rwa [List.map_fst_zip (by omega)] at this
    have hmem : ∀ p ∈ Q'.map (·.1), p ∈ es := fun p hp => hsub.subset hp
    have hfs := flat_sub hsub
    have hnd : ([g] ++ (Q'.map (·.1)).flatMap (·.1)).Nodup := List.nodup_append.2 ⟨by simp, (List.nodup_append.1 a5).2.1.sublist hfs, fun a ha b hb hab => by
      have : a = g := by simpa using ha
      subst this
      subst hab
      exact hnot (hfs.subset hb)⟩
    simp only [List.map_map, List.length_map] at k3 ⊢
    have hX' : (Q'.map ((fun x => x.2) ∘ fun q => (q.1.2.headD undef, q.2))) = Q'.map (·.2) := rfl
    rw [hX']
    refine ⟨[g] ++ (Q'.map (·.1)).flatMap (·.1), ⟨.slice (some ⟨g, 0, none⟩) Q'.length c, Q'.map (·.1), rfl, by simp, ?_, rfl, hnd, fun p hp => a6 p (hmem p hp), fun i p x hp hx => ?_⟩, hnd, fun b hb => ?_⟩
    · have hfl : (Q'.map (·.1)).flatMap (·.2) = Q'.map fun q => q.1.2.headD undef := by
        rw [flat_hd (fun p hp => a6 p (hmem p hp)), List.map_map]
        rfl
      refine ⟨by rw [hfl]; simp, .inr ⟨g, c, cur', by simp, Nat.zero_le _, k1, ?_, hcm, by rw [Nat.mul_one]; exact k2, ?_⟩⟩
      · have h1 := hQ'.length_le
        rw [List.length_zip] at h1
        rw [List.length_map]
        omega
      · rw [hfl, Nat.mul_one, List.length_map]
        exact k3
    · rw [List.getElem?_map] at hp hx
      cases hq : Q'[i]? with
      | none => rw [hq] at hp; cases hp
      | some q =>
        rw [hq] at hp hx
        simp at hp hx
        subst hp hx
        obtain ⟨j, hj⟩ := List.getElem?_of_mem (hQ'.subset (List.mem_of_getElem? hq))
        obtain ⟨j1, j2⟩ := List.getElem?_zip_eq_some.1 hj
        refine (IntsR.frames _ _).keep (a7 j q.1 q.2 j1 j2) (fun b hb => hk b (hFlt b (by rw [a4]; exact List.mem_append_right _ (mem_flat1 j1 hb))) (fun e => ?_))
        subst e
        exact hnot (mem_flat1 j1 hb)
    · rw [List.mem_append] at hb
      refine hF b ?_
      rw [a4]
      rcases hb with hb | hb
      · exact List.mem_append_left _ (by simpa [Value.ownBlock] using hb)
      · exact List.mem_append_right _ (hfs.subset hb)
/-- A block after many stores. -/
def putA (cs : Array Value) (o : Nat) : List Value → Array Value
  | [] => cs
  | v :: r => putA (cs.setIfInBounds o v) (o + 1) r
theorem putA_size : ∀ (vs : List Value) (o : Nat) (cs : Array Value), (putA cs o vs).size = cs.size
  | [], _, _ => rfl
  | v :: r, o, cs => by
    show (putA (cs.setIfInBounds o v) (o + 1) r).size = _
    rw [putA_size r]; simp
theorem putA_list : ∀ (vs : List Value) (o : Nat) (cs : Array Value), o + vs.length ≤ cs.size → (putA cs o vs).toList = cs.toList.take o ++ vs ++ cs.toList.drop (o + vs.length)
  | [], o, cs, _ => by simp [putA]
  | v :: r, o, cs, h => by
    simp only [List.length_cons] at h
    show (putA (cs.setIfInBounds o v) (o + 1) r).toList = _
    rw [putA_list r (o + 1) _ (by simp; omega), Array.toList_setIfInBounds]
    have ho : o < cs.toList.length := by simp; omega
    have e1 : (cs.toList.set o v).take (o + 1) = cs.toList.take o ++ [v] := by
      have hl : (cs.toList.take o).length = o := by rw [List.length_take]; omega
      rw [List.set_eq_take_append_cons_drop, if_pos ho, List.take_append, List.take_of_length_le (by omega), hl, show o + 1 - o = 1 by omega]
      rfl
    have e2 : (cs.toList.set o v).drop (o + 1 + r.length) = cs.toList.drop (o + 1 + r.length) := by rw [List.drop_set_of_lt (by omega)]
    rw [e1, e2]
    simp [Nat.add_comm, Nat.add_left_comm]
theorem Bx.setCells {g : Nat} {t : TypeId} : ∀ (vs : List Value) (o : Nat) (w : World) (cs : Array Value), Bx w g t cs → Bx (w.setCells g o vs) g t (putA cs o vs)
  | [], _, _, _, h => h
  | v :: r, o, _, _, h => Bx.setCells r (o + 1) _ _ (h.set o v)
theorem setCells_size (g : Nat) : ∀ (vs : List Value) (o : Nat) (w : World), (w.setCells g o vs).heap.size = w.heap.size
  | [], _, _ => rfl
  | v :: r, o, w => (setCells_size g r (o + 1) _).trans (by simp)
theorem Out.cell1 (w : World) (g o : Nat) (v : Value) : Out g (g + 1) w (w.setCell ⟨g, o, none⟩ v) :=
  ⟨rfl, rfl, rfl, by simp, fun k _ hk => heap_setCell_other w ⟨g, o, none⟩ k v (by show k ≠ g; omega)⟩
theorem Out.setCells (g : Nat) : ∀ (vs : List Value) (o : Nat) (w : World), Out g (g + 1) w (w.setCells g o vs)
  | [], _, _ => Out.refl
  | v :: r, o, w => (Out.cell1 w g o v).trans (Out.setCells g r (o + 1) _)
end Go.Proofs.Ytignchefkihdaaa

/- Sums of chapter 11, without code: rows of letters' values, what follows, what can hold; and all that its law says. -/
namespace Go.Proofs.Ytignchefkihdaaa
/-- The row m: letter k holds if bit k of m is one. -/
def rowR (m : Nat) : List Bool := (List.range 6).map fun k => m.testBit k
def valR (f : List Int) (m : Nat) : Bool := valB f (rowR m)
def cntR (f : List Int) : Nat := ((List.range 64).filter (valR f)).length
def allR (l : List (List Int)) (m : Nat) : Bool := l.all fun f => valR f m
def okR (l : List (List Int)) : Bool := l.all isF
def canR (l : List (List Int)) : Bool := okR l && (List.range 64).any (allR l)
def folR (l : List (List Int)) (f : List Int) : Bool := okR l && isF f && (List.range 64).all fun m => !(allR l m) || valR f m
def alkR (a b : List Int) : Bool := isF a && isF b && (List.range 64).all fun m => valR a m == valR b m
def fstR (f : List Int) : Int := match (List.range 64).find? (valR f) with | some m => (m : Int) | none => -1
def alwR (f : List Int) : Bool := cntR f == 64
theorem rowR_len (m : Nat) : (rowR m).length = 6 := by simp [rowR]
theorem valR_not {f : List Int} (h : isF (f ++ [-1]) = true) (m : Nat) : valR (f ++ [-1]) m = !(valR f m) := val_not h
theorem cntR_le (f : List Int) : cntR f ≤ 64 := by
  unfold cntR
  have := List.length_filter_le (valR f) (List.range 64)
  simpa using this
theorem cntR_all {f : List Int} : cntR f = 64 ↔ ∀ m, m < 64 → valR f m = true := by
  unfold cntR
  constructor
  · intro h m hm
    have h2 : ((List.range 64).filter (valR f)).length = (List.range 64).length := by rw [h]; simp
    exact List.length_filter_eq_length_iff.1 h2 m (List.mem_range.2 hm)
  · intro h
    have h2 : ((List.range 64).filter (valR f)).length = (List.range 64).length := List.length_filter_eq_length_iff.2 fun m hm => h m (List.mem_range.1 hm)
    rw [h2]; simp
theorem cntR_pos {f : List Int} : 0 < cntR f ↔ ∃ m, m < 64 ∧ valR f m = true := by
  unfold cntR
  rw [List.length_pos_iff_exists_mem]
  constructor
  · rintro ⟨m, hm⟩
    rw [List.mem_filter, List.mem_range] at hm
    exact ⟨m, hm⟩
  · rintro ⟨m, hm⟩
    exact ⟨m, by rw [List.mem_filter, List.mem_range]; exact hm⟩
theorem fstR_cnt (f : List Int) : decide (0 ≤ fstR f) = decide (0 < cntR f) := by
  unfold fstR
  cases hf : (List.range 64).find? (valR f) with
  | some m =>
    have hm := List.mem_range.1 (List.mem_of_find?_eq_some hf)
    have hv := List.find?_some hf
    rw [decide_eq_true (cntR_pos.2 ⟨m, hm, hv⟩)]
    exact decide_eq_true (by simp)
  | none =>
    have hn := List.find?_eq_none.1 hf
    have : ¬ 0 < cntR f := fun h => by
      obtain ⟨m, hm, hv⟩ := cntR_pos.1 h
      exact hn m (List.mem_range.2 hm) hv
    rw [decide_eq_false this]
    exact decide_eq_false (by simp)
theorem alwR_fst {f : List Int} (h : alwR f = true) : fstR f = 0 := by
  have hall := cntR_all.1 (by simpa [alwR] using h)
  have h0 : (List.range 64).find? (valR f) = some 0 := by
    rw [List.find?_eq_some_iff_getElem]
    exact ⟨hall 0 (by omega), 0, by simp, by simp, fun j hj => absurd hj (Nat.not_lt_zero _)⟩
  unfold fstR
  rw [h0]
  rfl
theorem flt_not (p : Nat → Bool) : ∀ l : List Nat, (l.filter fun m => !(p m)).length + (l.filter p).length = l.length
  | [] => rfl
  | x :: l => by
    have ih := flt_not p l
    simp only [List.filter_cons]
    cases p x <;> simp <;> omega
theorem cntR_not {f : List Int} (h : isF (f ++ [-1]) = true) : cntR (f ++ [-1]) = 64 - cntR f := by
  have e : (List.range 64).filter (valR (f ++ [-1])) = (List.range 64).filter fun m => !(valR f m) := List.filter_congr fun m _ => valR_not h m
  have := flt_not (valR f) (List.range 64)
  unfold cntR
  rw [e]
  simp at this
  omega
theorem folR_can {l : List (List Int)} {f : List Int} (h : isF (f ++ [-1]) = true) (hl : okR l = true) : folR l f = !(canR (l ++ [f ++ [-1]])) := by
  have hf := isF_not h
  have ok : okR (l ++ [f ++ [-1]]) = true := by
    unfold okR at hl ⊢
    rw [List.all_append, hl]
    simp [h]
  have e : ∀ m, allR (l ++ [f ++ [-1]]) m = (allR l m && !(valR f m)) := fun m => by
    unfold allR
    rw [List.all_append]
    simp [valR_not h]
  unfold folR canR
  rw [hl, hf, ok]
  simp only [Bool.true_and]
  rw [← Bool.not_eq_eq_eq_not, List.not_all_eq_any_not]
  congr 1
  funext m
  rw [e m]
  cases allR l m <;> cases valR f m <;> rfl
theorem folR_no {l : List (List Int)} {f : List Int} (hl : okR l = false) : folR l f = false := by
  unfold folR
  rw [hl]
  rfl
theorem alkR_comm (a b : List Int) : alkR a b = alkR b a := by
  unfold alkR
  rw [Bool.and_comm (isF a)]
  congr 2
  funext m
  cases valR a m <;> cases valR b m <;> rfl
theorem alkR_parts {a b : List Int} (h : alkR a b = true) : isF a = true ∧ isF b = true ∧ ∀ m, m < 64 → valR a m = valR b m := by
  unfold alkR at h
  rw [Bool.and_eq_true, Bool.and_eq_true, List.all_eq_true] at h
  exact ⟨h.1.1, h.1.2, fun m hm => by simpa using h.2 m (List.mem_range.2 hm)⟩
theorem alkR_cnt {a b : List Int} (h : alkR a b = true) : cntR a = cntR b := by
  obtain ⟨_, _, hv⟩ := alkR_parts h
  unfold cntR
  rw [List.filter_congr fun m hm => hv m (List.mem_range.1 hm)]
theorem alkR_fol {a b : List Int} (h : alkR a b = true) : folR [a] b = true := by
  obtain ⟨ha, hb, hv⟩ := alkR_parts h
  unfold folR okR allR
  simp only [List.all_cons, List.all_nil, Bool.and_true, ha, hb, Bool.true_and]
  rw [List.all_eq_true]
  intro m hm
  rw [hv m (List.mem_range.1 hm)]
  cases valR b m <;> rfl
end Go.Proofs.Ytignchefkihdaaa
