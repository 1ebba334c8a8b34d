/- Words for a block of one cell, over any program. -/
import Derived.Test.YtjhknafajfpldaaDoorMg0
import Derived.Test.YtjhknafajfpldaaDoorMg2
import Derived.Test.YtjhknafajfpldaaDoorMg3
import Derived.Laws.BitsAllLaws
import Derived.Laws.Tables
import Derived.IntWalk
namespace Go.Proofs.YtjhknafajfpldaaDoor
open Go.ChangeShapes Go.WideShapes Go.ChangeAt Go.RowKit
/-- Block g is one cell of type t that holds v. -/
def One (w : World) (g : Nat) (t : TypeId) (v : Value) : Prop := w.heap[g]? = some (.cells #[v] t (0, 0))
section
variable {w w' : World} {g : Nat} {t : TypeId} {v : Value}
theorem One.lt (h : One w g t v) : g < w.heap.size := (Array.getElem?_eq_some_iff.1 h).1
theorem One.cell (h : One w g t v) : w.cell? ⟨g, 0, none⟩ = some v := by rw [cell_of_row w g 0 #[v] t (0, 0) h]; rfl
theorem One.free (h : One w g t v) : w.frozen? ⟨g, 0, none⟩ = false := frozen_of_row w g 0 #[v] t h
theorem One.new (w : World) (t : TypeId) (v : Value) : One (w.alloc (.cells #[v] t)) w.heap.size t v := heap_alloc_new w _
theorem One.set (h : One w g t v) (u : Value) : One (w.setCell ⟨g, 0, none⟩ u) g t u := heap_setCell_same w g 0 #[v] t u h
theorem One.keep (h : One w g t v) (hk : w'.heap[g]? = w.heap[g]?) : One w' g t v := hk.trans h
theorem One.below {B : Nat} (h : One w g t v) (hb : Below B w w') (hg : g < B) : One w' g t v := h.keep (hb.block g hg)
theorem One.newer (h : One w g t v) (hb : Below w.heap.size w w') : One w' g t v := h.keep (hb.block g h.lt)
theorem One.out {lo hi : Nat} (h : One w g t v) (o : Out lo hi w w') (hd : g < lo ∨ hi ≤ g) : One w' g t v := h.keep (o.block g h.lt hd)
theorem One.far (h : One w g t v) {p : Addr} (hp : g ≠ p.block) (u : Value) : One (w.setCell p u) g t v := h.keep (Below.heap_setCell w p u g hp)
theorem Out.setCell {g lo hi : Nat} (w : World) (h1 : lo ≤ g) (h2 : g < hi) (k : Nat) (u : Value) : Out lo hi w (w.setCell ⟨g, k, none⟩ u) :=
  ⟨rfl, rfl, rfl, by simp, fun b _ hb => Below.heap_setCell w ⟨g, k, none⟩ u b (by simp; omega)⟩
end
end Go.Proofs.YtjhknafajfpldaaDoor

/- Contracts of the code's rows of attacks (attackRows, claimBits). Conditions: claims below 10, rows below 2^16. -/
namespace Go.Proofs.YtjhknafajfpldaaDoor
open Go.ChangeShapes Go.WideShapes Go.ChangeAt Go.RowKit
/-- The cells of a value of type attackRows. -/
def arC (n : Int) (f : Nat → Nat) : Array Value := #[.int .i64 n, .int .u16 (f 0 : Nat), .int .u16 (f 1 : Nat), .int .u16 (f 2 : Nat), .int .u16 (f 3 : Nat), .int .u16 (f 4 : Nat), .int .u16 (f 5 : Nat), .int .u16 (f 6 : Nat), .int .u16 (f 7 : Nat), .int .u16 (f 8 : Nat), .int .u16 (f 9 : Nat)]
theorem isClaim_any {w : World} {n c : Int} (hn : -9223372036854775807 ≤ n) (hn2 : n ≤ 9223372036854775807) : Calls Tryd.prog 30 #[.int .i64 n, .int .i64 c] w (fun e w' => e = .returned (.bool (inr c 0 (n - 1))) ∧ w = w') := by
  go_enter Tryd.func30, Tryd.ntmps30
  go_wp2_with (go_at_call 33; refine (inRange_any _ _ _ _).mono ?_; rintro e w1 ⟨rfl, rfl⟩)
  go_ret
  exact ⟨rfl, rfl⟩
def upd (f : Nat → Nat) (a b : Nat) : Nat → Nat := fun k => if k = a then f k ||| 2 ^ b else f k
theorem lt10 {a : Nat} (h : a < 10) : a = 0 ∨ a = 1 ∨ a = 2 ∨ a = 3 ∨ a = 4 ∨ a = 5 ∨ a = 6 ∨ a = 7 ∨ a = 8 ∨ a = 9 := by omega
theorem arC_at (n : Int) (f : Nat → Nat) {a : Nat} (ha : a < 10) : (arC n f)[1 + a]? = some (.int .u16 (f a : Nat)) := by
  rcases lt10 ha with rfl | rfl | rfl | rfl | rfl | rfl | rfl | rfl | rfl | rfl <;> rfl
theorem arC_upd (n : Int) (f : Nat → Nat) {a : Nat} (ha : a < 10) (b : Nat) : (arC n f).setIfInBounds (1 + a) (.int .u16 ((f a ||| 2 ^ b : Nat) : Int)) = arC n (upd f a b) := by
  rcases lt10 ha with rfl | rfl | rfl | rfl | rfl | rfl | rfl | rfl | rfl | rfl <;> simp [arC, upd]
theorem arC_zero : #[Value.int .i64 0, .int .u16 0, .int .u16 0, .int .u16 0, .int .u16 0, .int .u16 0, .int .u16 0, .int .u16 0, .int .u16 0, .int .u16 0, .int .u16 0] = arC 0 fun _ => 0 := rfl
theorem arC_one (n : Int) (f : Nat → Nat) : ∀ v ∈ (arC n f).toList, v.oneCell' = true := by simp [arC, Value.oneCell']
section
variable {P : Program} {w w' : World} {g : Nat} {t : TypeId} {cs cs' : Array Value}
theorem Bx.at_ (h : Bx w g t cs) {k : Nat} {v : Value} (hk : cs[k]? = some v) : w.cell? ⟨g, k, none⟩ = some v := by
  rw [cell_of_row w g k cs t (0, 0) h]; exact hk
theorem Bx.free (h : Bx w g t cs) (k : Nat) : w.frozen? ⟨g, k, none⟩ = false := frozen_of_row w g k cs t h
theorem Bx.set (h : Bx w g t cs) (k : Nat) (u : Value) : Bx (w.setCell ⟨g, k, none⟩ u) g t (cs.setIfInBounds k u) := heap_setCell_same w g k cs t u h
theorem Bx.drew_ (h : Bx w g t cs) : Bx w.drew g t cs := h
theorem Bx.far (h : Bx w g t cs) {p : Addr} (hp : g ≠ p.block) (u : Value) : Bx (w.setCell p u) g t cs := (Below.heap_setCell w p u g hp).trans h
/-- The whole block is loaded. -/
theorem Bx.load (h : Bx w g t cs) {n : Nat} (hn : cs.size = n) : (loadCellsFrom ⟨g, 0, none⟩ 0 n #[]).run P w = .ok cs w := by
  subst hn
  have := run_loadCells_list (P := P) w ⟨g, 0, none⟩ cs.toList (fun j v hv => by
    have hadd : (⟨g, 0, none⟩ : Addr).add j = ⟨g, j, none⟩ := by unfold Addr.add; split <;> simp_all
    rw [hadd, cell_of_row _ _ j cs t (0, 0) h]
    simpa using hv)
  simpa [loadCells] using this
theorem setRow_out (w : World) (g : Nat) (cs : Array Value) {lo hi : Nat} (h1 : lo ≤ g) (h2 : g < hi) : Out lo hi w (w.setRow g cs) :=
  ⟨rfl, rfl, rfl, by simp [World.setRow], fun k _ hk => by
    have : g ≠ k := by omega
    simp [World.setRow, Array.getElem?_modify, this]⟩
theorem Bx.setRow (h : Bx w g t cs) (cs' : Array Value) : Bx (w.setRow g cs') g t cs' := by
  have hlt := h.lt
  have h' : w.heap[g] = .cells cs t (0, 0) := by simpa [Bx, Array.getElem?_eq_getElem hlt] using h
  show (w.heap.modify g _)[g]? = _
  rw [Array.getElem?_eq_getElem (by simpa using hlt), Array.getElem_modify_self, h']
/-- The whole block is stored. -/
theorem Bx.store (h : Bx w g t cs) (hs : cs'.size = cs.size) (h1 : ∀ v ∈ cs'.toList, v.oneCell' = true) : (storeCells ⟨g, 0, none⟩ cs'.toList 0).run P w = .ok () (w.setRow g cs') := by
  have := run_storeCells_from (P := P) g t cs'.toList 0 cs w h (by simpa using hs) h1
  simpa using this
end
theorem AR_info : (Tryd.prog.info? 49).map (·.size) = some 11 := by kernel_rfl
theorem GR_info : (Tryd.prog.info? 26).map (·.size) = some 2 := by kernel_rfl
section
variable {w : World} {ops : Array Oper} {rest : List Oper} {o : Oper} {a : Act} {Q : Exit → Act → World → Prop} {cs : Array Value}
theorem ldAR (hgd : o.guard = none) (x : Operand) (ho : o.op = .load 49 x) {g : Nat} (h : Bx w g 49 cs) (hs : cs.size = 11) (hx : a.eval x = .pointer (some ⟨g, 0, none⟩)) (K : wpList Tryd.prog ops Q rest (a.put o.dst (.agg cs)) w) : wpList Tryd.prog ops Q (o :: rest) a w :=
  wpList_load_row hgd _ x ho g hx _ cs (0, 0) _ h Tryd.underlying49 rfl (by rw [AR_info, hs]) K
theorem stAR (hgd : o.guard = none) (x y : Operand) (ho : o.op = .store 49 x y) {g : Nat} {n : Int} {f : Nat → Nat} (h : Bx w g 49 cs) (hs : cs.size = 11) (hx : a.eval x = .pointer (some ⟨g, 0, none⟩)) (hy : a.eval y = .agg (arC n f)) (K : wpList Tryd.prog ops Q rest (a.put o.dst undef) (w.setRow g (arC n f))) : wpList Tryd.prog ops Q (o :: rest) a w :=
  wpList_store_row hgd _ x y ho g (arC n f) hx hy _ cs h (by rw [AR_info]; rfl) (by rw [hs]; rfl) (by simp [arC, Value.oneCell']) K
theorem resAR {fn : Func} {p : Tmp} {tmps : Array Value} {g : Nat} (h : fn.results = #[.cell p 49]) (hb : Bx w g 49 cs) (hs : cs.size = 11) (hp : tmps.getD p undef = .pointer (some ⟨g, 0, none⟩)) : (results fn tmps).run Tryd.prog w = .ok (.agg cs) w :=
  results_cell_row h tmps w g _ cs (0, 0) _ hp hb Tryd.underlying49 rfl (by rw [AR_info, hs])
theorem ldGR (hgd : o.guard = none) (x : Operand) (ho : o.op = .load 26 x) {g : Nat} (h : Bx w g 26 cs) (hs : cs.size = 2) (hx : a.eval x = .pointer (some ⟨g, 0, none⟩)) (K : wpList Tryd.prog ops Q rest (a.put o.dst (.agg cs)) w) : wpList Tryd.prog ops Q (o :: rest) a w :=
  wpList_load_row hgd _ x ho g hx _ cs (0, 0) _ h Tryd.underlying26 rfl (by rw [GR_info, hs]) K
theorem resGR {fn : Func} {p : Tmp} {tmps : Array Value} {g : Nat} (h : fn.results = #[.cell p 26]) (hb : Bx w g 26 cs) (hs : cs.size = 2) (hp : tmps.getD p undef = .pointer (some ⟨g, 0, none⟩)) : (results fn tmps).run Tryd.prog w = .ok (.agg cs) w :=
  results_cell_row h tmps w g _ cs (0, 0) _ hp hb Tryd.underlying26 rfl (by rw [GR_info, hs])
end
theorem or_bit {x b : Nat} (hx : x < 65536) (hb : b < 10) : bits .or .u16 (x : Int) (IntKind.u16.wrap (2 ^ b)) = ((x ||| 2 ^ b : Nat) : Int) := by
  have e : IntKind.u16.wrap (2 ^ b) = ((2 ^ b : Nat) : Int) := by
    rcases lt10 hb with rfl | rfl | rfl | rfl | rfl | rfl | rfl | rfl | rfl | rfl <;> rfl
  rw [e, u16_or_nat _ _ hx (Nat.lt_of_lt_of_le (Nat.pow_lt_pow_right (by omega) hb) (by decide))]
set_option maxRecDepth 100000 in
theorem withAttack_any {w : World} {n : Int} {f : Nat → Nat} {a b : Nat} (ha : a < 10) (hb : b < 10) (hf : f a < 65536) :
    Calls Tryd.prog 51 #[.agg (arC n f), .int .i64 a, .int .i64 b] w (fun e w' => e = .returned (.agg (arC n (upd f a b))) ∧ Below w.heap.size w w') := by
  have hb1 : Below w.heap.size w (w.alloc (Obj.cells (arC n f) 49)) := (Below.refl _ _).alloc (Nat.le_refl _) _
  have hb2 : Below w.heap.size w ((w.alloc (Obj.cells (arC n f) 49)).alloc (Obj.cells (arC 0 fun _ => 0) 49)) := hb1.alloc (by simp) _
  have bx1 : Bx ((w.alloc (Obj.cells (arC n f) 49)).alloc (Obj.cells (arC 0 fun _ => 0) 49)) w.heap.size 49 (arC n f) := (Bx.made w _ _).new ((Below.refl _ _).alloc (Nat.le_refl _) _)
  have bx2 : Bx ((w.alloc (Obj.cells (arC n f) 49)).alloc (Obj.cells (arC 0 fun _ => 0) 49)) (w.heap.size + 1) 49 (arC 0 fun _ => 0) := by
    have := Bx.made (w.alloc (Obj.cells (arC n f) 49)) 49 (arC 0 fun _ => 0)
    simpa using this
  obtain ⟨W2, hW⟩ : ∃ u : World, u = (w.alloc (Obj.cells (arC n f) 49)).alloc (Obj.cells (arC 0 fun _ => 0) 49) := ⟨_, rfl⟩
  rw [← hW] at hb2 bx1 bx2
  have c1 := bx1.at_ (arC_at n f ha)
  have f1 := bx1.free (1 + a)
  have i1 : (0 : Int) ≤ (a : Int) := by omega
  have i2 : (a : Int) < 10 := by omega
  have i3 : (0 : Int) ≤ (b : Int) := by omega
  have i4 : (b : Int) < 10 := by omega
  go_enter Tryd.func51, Tryd.ntmps51
  go_wp2_with fail
  rw [arC_zero, ← hW]
  clear hW
  go_region
  rw [or_bit hf hb]
  have bx3 := ((bx1.set (1 + a) (.int .u16 ((f a ||| 2 ^ b : Nat) : Int))).drew_)
  have bx4 := ((bx2.far (p := ⟨w.heap.size, 1 + a, none⟩) (by simp) (.int .u16 ((f a ||| 2 ^ b : Nat) : Int))).drew_)
  have hb3 := (hb2.setCell (p := ⟨w.heap.size, 1 + a, none⟩) (by simp) (.int .u16 ((f a ||| 2 ^ b : Nat) : Int))).drew
  rw [arC_upd n f ha b] at bx3
  obtain ⟨W3, hW3⟩ : ∃ u : World, u = (W2.setCell ⟨w.heap.size, 1 + a, none⟩ (.int .u16 ((f a ||| 2 ^ b : Nat) : Int))).drew := ⟨_, rfl⟩
  rw [← hW3] at bx3 bx4 hb3 ⊢
  clear hW3 bx1 bx2 c1 f1 hb1 hb2
  go_wp2_with (first | (refine ldAR rfl (.tmp 3) rfl bx3 rfl rfl ?_) | (refine stAR rfl (.tmp 6) (.tmp 16) rfl bx4 rfl rfl rfl ?_))
  refine bodyPost_ret (resAR rfl (bx4.setRow (arC n (upd f a b))) rfl rfl) rfl ⟨rfl, hb3.trans ((setRow_out W3 _ _ (Nat.le_refl _) (Nat.lt_succ_self _)).below (by omega) hb3.size)⟩
theorem has_bit (x k : Nat) (hx : x < 65536) : (bits .and .u16 ((x : Int) / 2 ^ k) 1 == 1) = x.testBit k := by
  have e : ((x : Int) / 2 ^ k) = ((x / 2 ^ k : Nat) : Int) := by push_cast; rfl
  have hl : x / 2 ^ k < 65536 := Nat.lt_of_le_of_lt (Nat.div_le_self _ _) hx
  rw [e, show (1 : Int) = ((1 : Nat) : Int) from rfl, u16_and_nat _ _ hl (by omega), Nat.and_one_is_mod, Nat.testBit_eq_decide_div_mod_eq]
  by_cases h : x / 2 ^ k % 2 = 1
  · rw [h]; simp
  · simp [h]
    omega
theorem has_any {w : World} {x : Nat} {c : Int} (hx : x < 65536) : Calls Tryd.prog 44 #[.int .u16 x, .int .i64 c] w (fun e w' => e = .returned (.bool (inr c 0 9 && x.testBit c.toNat)) ∧ w = w') := by
  by_cases hc : 0 ≤ c ∧ c ≤ 9
  · obtain ⟨h0, h1⟩ := hc
    obtain ⟨k, rfl⟩ := Int.eq_ofNat_of_zero_le h0
    have e1 : inr (k : Int) 0 9 = true := inr_t h0 h1
    go_enter Tryd.func44, Tryd.ntmps44
    go_wp2_with (go_at_call 30; refine (isClaim_any (by omega) (by omega)).mono ?_; rintro e w1 ⟨he, rfl⟩; rw [show (10 : Int) - 1 = 9 from rfl, e1] at he; subst he)
    go_ret
    exact ⟨ret_b (by rw [e1, Int.toNat_natCast, Bool.true_and]; exact has_bit x k hx), rfl⟩
  · have e1 : inr c 0 9 = false := inr_f (by omega)
    go_enter Tryd.func44, Tryd.ntmps44
    go_wp2_with (go_at_call 30; refine (isClaim_any (by omega) (by omega)).mono ?_; rintro e w1 ⟨he, rfl⟩; rw [show (10 : Int) - 1 = 9 from rfl, e1] at he; subst he)
    go_ret
    exact ⟨ret_b (by rw [e1]; rfl), rfl⟩
end Go.Proofs.YtjhknafajfpldaaDoor

/- Contracts of slices.Compare on slices of integers of one length, and of IsGraph's code. No conditions but that the slices have at most 2^40 elements. -/
namespace Go.Proofs.YtjhknafajfpldaaDoor
open Go.ChangeShapes Go.WideShapes Go.ChangeAt Go.RowKit
def cmp1 (a b : Int) : Int := if a < b then -1 else if b < a then 1 else 0
theorem cmpNaN_any (a : Int) (w : World) : Calls Tryd.prog 64 #[.int .i64 a] w (fun e w' => e = .returned (.bool false) ∧ w = w') := by
  go_enter Tryd.func64, Tryd.ntmps64
  go_wp2
  go_ret
  exact ⟨ret_b (by simp), rfl⟩
theorem cmpInt_any (a b : Int) (w : World) : Calls Tryd.prog 52 #[.int .i64 a, .int .i64 b] w (fun e w' => e = .returned (.int .i64 (cmp1 a b)) ∧ w = w') := by
  by_cases h1 : a < b
  · have H := Lib.hid (show cmp1 a b = -1 by unfold cmp1; rw [if_pos h1])
    go_enter Tryd.func52, Tryd.ntmps52
    go_wp2_with (go_at_call 64; refine (cmpNaN_any _ _).mono ?_; rintro e w1 ⟨rfl, rfl⟩)
    go_ret
    exact ⟨by rw [H.out]; rfl, rfl⟩
  · by_cases h2 : b < a
    · have H := Lib.hid (show cmp1 a b = 1 by unfold cmp1; rw [if_neg h1, if_pos h2])
      go_enter Tryd.func52, Tryd.ntmps52
      go_wp2_with (go_at_call 64; refine (cmpNaN_any _ _).mono ?_; rintro e w1 ⟨rfl, rfl⟩)
      go_ret
      exact ⟨by rw [H.out]; rfl, rfl⟩
    · have H := Lib.hid (show cmp1 a b = 0 by unfold cmp1; rw [if_neg h1, if_neg h2])
      go_enter Tryd.func52, Tryd.ntmps52
      go_wp2_with (go_at_call 64; refine (cmpNaN_any _ _).mono ?_; rintro e w1 ⟨rfl, rfl⟩)
      go_ret
      exact ⟨by rw [H.out]; rfl, rfl⟩
def cmpL : List Int → List Int → Int
  | x :: xs, y :: ys => if cmp1 x y = 0 then cmpL xs ys else cmp1 x y
  | _, _ => 0
theorem cmpL_drop {xs ys : List Int} {k : Nat} (hx : k < xs.length) (hy : k < ys.length) : cmpL (xs.drop k) (ys.drop k) = if cmp1 xs[k] ys[k] = 0 then cmpL (xs.drop (k + 1)) (ys.drop (k + 1)) else cmp1 xs[k] ys[k] := by
  rw [List.drop_eq_getElem_cons hx, List.drop_eq_getElem_cons hy]; rfl
set_option maxRecDepth 100000 in
set_option maxHeartbeats 1600000 in
theorem compare_any {w : World} {A A' : Option Addr} {n c c' : Nat} {xs ys : List Int} (hx : Hid (xs.length = n)) (hy : Hid (ys.length = n)) (hn : n ≤ 1099511627776) (hr : Rd w w.heap.size A (ivs xs)) (hr' : Rd w w.heap.size A' (ivs ys)) :
    Calls Tryd.prog 34 #[.slice A n c, .slice A' n c'] w (fun e w' => e = .returned (.int .i64 (cmpL xs ys)) ∧ w = w') := by
  go_enter Tryd.func34, Tryd.ntmps34
  go_wp2
  go_loop [11] (fun i => ∃ k : Nat, k ≤ n ∧ i = .int .i64 k ∧ Hid (cmpL xs ys = cmpL (xs.drop k) (ys.drop k))) (fun i => n - (intOf i).toNat)
  case atStart => exact ⟨0, Nat.zero_le _, rfl, rfl⟩
  case round =>
    obtain ⟨k, hk, rfl, heq⟩ := hrel
    by_cases hlt : k < n
    · have hkx : k < xs.length := by rw [hx.out]; exact hlt
      have hky : k < ys.length := by rw [hy.out]; exact hlt
      obtain ⟨ad, rfl, hab, hc⟩ := ivs_at hr hkx
      obtain ⟨ad', rfl, hab', hc'⟩ := ivs_at hr' hky
      have hd := cmpL_drop hkx hky
      obtain ⟨x, hxx⟩ : ∃ x, x = xs[k] := ⟨_, rfl⟩
      obtain ⟨y, hyy⟩ : ∃ y, y = ys[k] := ⟨_, rfl⟩
      rw [← hxx] at hc hd
      rw [← hyy] at hc' hd
      clear hxx hyy
      by_cases hz : cmp1 x y = 0
      · rw [if_pos hz] at hd
        have HD := Lib.hid (heq.out.trans hd)
        have HZ := Lib.hid hz
        clear hd hz
        go_wp2_with (go_at_call 52; refine (cmpInt_any _ _ _).mono ?_; rintro e w1 ⟨he, rfl⟩; rw [HZ.out] at he; subst he)
        go_round
        case rel => exact ⟨k + 1, by omega, by go_num, HD.out⟩
        case measure => simp [intOf]; omega
      · rw [if_neg hz] at hd
        have HD := Lib.hid (heq.out.trans hd)
        obtain ⟨z, hzz⟩ : ∃ z, z = cmp1 x y := ⟨_, rfl⟩
        rw [← hzz] at hz
        have HZ := Lib.hid hzz
        clear hd hzz
        go_wp2_with (go_at_call 52; refine (cmpInt_any _ _ _).mono ?_; rintro e w1 ⟨he, rfl⟩; rw [← HZ.out] at he; subst he)
        go_ret
        exact ⟨ret_i (by rw [HD.out, HZ.out]), rfl⟩
    · have e : k = n := by omega
      subst e
      have HE := Lib.hid (show cmpL xs ys = 0 by rw [heq.out, List.drop_of_length_le (by rw [hx.out]; omega)]; rfl)
      go_wp2
      go_ret
      exact ⟨ret_i (by rw [HE.out]), rfl⟩
theorem cmp_lt (p' q' p q : Int) : decide (0 ≤ cmpL [p', q'] [p, q]) = !(ltP [p', q'] [p, q]) := by
  simp only [cmpL, cmp1, ltP, List.getD_cons_zero, List.getD_cons_succ, Bool.not_not]
  by_cases h1 : p' < p
  · have h2 : ¬ p < p' := by omega
    have h3 : ¬ p' = p := by omega
    simp [h1, h2, h3]
  · by_cases h2 : p < p'
    · simp [h1, h2]
    · have h3 : p' = p := by omega
      subst h3
      by_cases h4 : q' < q
      · have h5 : ¬ q ≤ q' := by omega
        simp [h4, h5]
      · by_cases h5 : q < q'
        · have h6 : q ≤ q' := by omega
          simp [h4, h5, h6]
        · have h6 : q ≤ q' := by omega
          simp [h4, h5, h6]
end Go.Proofs.YtjhknafajfpldaaDoor
