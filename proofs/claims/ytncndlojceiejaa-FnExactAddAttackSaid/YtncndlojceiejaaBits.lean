/- Contracts of the code's rows of attacks (attackRows, claimBits). Conditions: claims below 10, rows below 2^16. -/
import Derived.Test.YtncndlojceiejaaGraph
import Derived.Test.YtncndlojceiejaaInts
import Derived.Test.YtncndlojceiejaaStep
import Derived.Test.YtncndlojceiejaaOne
import Derived.Laws.BitsAllLaws
import Derived.Laws.Tables
import Derived.IntWalk
namespace Go.Proofs.Ytncndlojceiejaa
open Go.ChangeShapes Go.WideShapes Go.ChangeAt Go.RowKit
/-- The cells of a value of type attackRows. -/
def arC (n : Int) (f : Nat → Nat) : Array Value := #[.int .i64 n, .int .u16 (f 0 : Nat), .int .u16 (f 1 : Nat), .int .u16 (f 2 : Nat), .int .u16 (f 3 : Nat), .int .u16 (f 4 : Nat), .int .u16 (f 5 : Nat), .int .u16 (f 6 : Nat), .int .u16 (f 7 : Nat), .int .u16 (f 8 : Nat), .int .u16 (f 9 : Nat)]
theorem isClaim_any {w : World} {n c : Int} (hn : -9223372036854775807 ≤ n) (hn2 : n ≤ 9223372036854775807) : Calls Try.prog 36 #[.int .i64 n, .int .i64 c] w (fun e w' => e = .returned (.bool (inr c 0 (n - 1))) ∧ w = w') := by
  go_enter Try.func36, Try.ntmps36
  go_wp2_with (go_at_call 44; refine (inRange_any _ _ _ _).mono ?_; rintro e w1 ⟨rfl, rfl⟩)
  go_ret
  exact ⟨rfl, rfl⟩
def upd (f : Nat → Nat) (a b : Nat) : Nat → Nat := fun k => if k = a then f k ||| 2 ^ b else f k
theorem lt10 {a : Nat} (h : a < 10) : a = 0 ∨ a = 1 ∨ a = 2 ∨ a = 3 ∨ a = 4 ∨ a = 5 ∨ a = 6 ∨ a = 7 ∨ a = 8 ∨ a = 9 := by omega
theorem arC_at (n : Int) (f : Nat → Nat) {a : Nat} (ha : a < 10) : (arC n f)[1 + a]? = some (.int .u16 (f a : Nat)) := by
  rcases lt10 ha with rfl | rfl | rfl | rfl | rfl | rfl | rfl | rfl | rfl | rfl <;> rfl
theorem arC_upd (n : Int) (f : Nat → Nat) {a : Nat} (ha : a < 10) (b : Nat) : (arC n f).setIfInBounds (1 + a) (.int .u16 ((f a ||| 2 ^ b : Nat) : Int)) = arC n (upd f a b) := by
  rcases lt10 ha with rfl | rfl | rfl | rfl | rfl | rfl | rfl | rfl | rfl | rfl <;> simp [arC, upd]
theorem arC_zero : #[Value.int .i64 0, .int .u16 0, .int .u16 0, .int .u16 0, .int .u16 0, .int .u16 0, .int .u16 0, .int .u16 0, .int .u16 0, .int .u16 0, .int .u16 0] = arC 0 fun _ => 0 := rfl
theorem arC_one (n : Int) (f : Nat → Nat) : ∀ v ∈ (arC n f).toList, v.oneCell' = true := by simp [arC, Value.oneCell']
section
variable {P : Program} {w w' : World} {g : Nat} {t : TypeId} {cs cs' : Array Value}
theorem Bx.at_ (h : Bx w g t cs) {k : Nat} {v : Value} (hk : cs[k]? = some v) : w.cell? ⟨g, k, none⟩ = some v := by
  rw [cell_of_row w g k cs t (0, 0) h]; exact hk
theorem Bx.free (h : Bx w g t cs) (k : Nat) : w.frozen? ⟨g, k, none⟩ = false := frozen_of_row w g k cs t h
theorem Bx.set (h : Bx w g t cs) (k : Nat) (u : Value) : Bx (w.setCell ⟨g, k, none⟩ u) g t (cs.setIfInBounds k u) := heap_setCell_same w g k cs t u h
theorem Bx.drew_ (h : Bx w g t cs) : Bx w.drew g t cs := h
theorem Bx.far (h : Bx w g t cs) {p : Addr} (hp : g ≠ p.block) (u : Value) : Bx (w.setCell p u) g t cs := (Below.heap_setCell w p u g hp).trans h
/-- The whole block is loaded. -/
theorem Bx.load (h : Bx w g t cs) {n : Nat} (hn : cs.size = n) : (loadCellsFrom ⟨g, 0, none⟩ 0 n #[]).run P w = .ok cs w := by
  subst hn
  have := run_loadCells_list (P := P) w ⟨g, 0, none⟩ cs.toList (fun j v hv => by
    have hadd : (⟨g, 0, none⟩ : Addr).add j = ⟨g, j, none⟩ := by unfold Addr.add; split <;> simp_all
    rw [hadd, cell_of_row _ _ j cs t (0, 0) h]
    simpa using hv)
  simpa [loadCells] using this
theorem setRow_out (w : World) (g : Nat) (cs : Array Value) {lo hi : Nat} (h1 : lo ≤ g) (h2 : g < hi) : Out lo hi w (w.setRow g cs) :=
  ⟨rfl, rfl, rfl, by simp [World.setRow], fun k _ hk => by
    have : g ≠ k := by omega
    simp [World.setRow, Array.getElem?_modify, this]⟩
theorem Bx.setRow (h : Bx w g t cs) (cs' : Array Value) : Bx (w.setRow g cs') g t cs' := by
  have hlt := h.lt
  have h' : w.heap[g] = .cells cs t (0, 0) := by simpa [Bx, Array.getElem?_eq_getElem hlt] using h
  show (w.heap.modify g _)[g]? = _
  rw [Array.getElem?_eq_getElem (by simpa using hlt), Array.getElem_modify_self, h']
/-- The whole block is stored. -/
theorem Bx.store (h : Bx w g t cs) (hs : cs'.size = cs.size) (h1 : ∀ v ∈ cs'.toList, v.oneCell' = true) : (storeCells ⟨g, 0, none⟩ cs'.toList 0).run P w = .ok () (w.setRow g cs') := by
  have := run_storeCells_from (P := P) g t cs'.toList 0 cs w h (by simpa using hs) h1
  simpa using this
end
theorem AR_info : (Try.prog.info? 60).map (·.size) = some 11 := by kernel_rfl
theorem GR_info : (Try.prog.info? 26).map (·.size) = some 2 := by kernel_rfl
section
variable {w : World} {ops : Array Oper} {rest : List Oper} {o : Oper} {a : Act} {Q : Exit → Act → World → Prop} {cs : Array Value}
theorem ldAR (hgd : o.guard = none) (x : Operand) (ho : o.op = .load 60 x) {g : Nat} (h : Bx w g 60 cs) (hs : cs.size = 11) (hx : a.eval x = .pointer (some ⟨g, 0, none⟩)) (K : wpList Try.prog ops Q rest (a.put o.dst (.agg cs)) w) : wpList Try.prog ops Q (o :: rest) a w :=
  wpList_load_row hgd _ x ho g hx _ cs (0, 0) _ h Try.underlying60 rfl (by rw [AR_info, hs]) K
theorem stAR (hgd : o.guard = none) (x y : Operand) (ho : o.op = .store 60 x y) {g : Nat} {n : Int} {f : Nat → Nat} (h : Bx w g 60 cs) (hs : cs.size = 11) (hx : a.eval x = .pointer (some ⟨g, 0, none⟩)) (hy : a.eval y = .agg (arC n f)) (K : wpList Try.prog ops Q rest (a.put o.dst undef) (w.setRow g (arC n f))) : wpList Try.prog ops Q (o :: rest) a w :=
  wpList_store_row hgd _ x y ho g (arC n f) hx hy _ cs h (by rw [AR_info]; rfl) (by rw [hs]; rfl) (by simp [arC, Value.oneCell']) K
theorem resAR {fn : Func} {p : Tmp} {tmps : Array Value} {g : Nat} (h : fn.results = #[.cell p 60]) (hb : Bx w g 60 cs) (hs : cs.size = 11) (hp : tmps.getD p undef = .pointer (some ⟨g, 0, none⟩)) : (results fn tmps).run Try.prog w = .ok (.agg cs) w :=
  results_cell_row h tmps w g _ cs (0, 0) _ hp hb Try.underlying60 rfl (by rw [AR_info, hs])
theorem ldGR (hgd : o.guard = none) (x : Operand) (ho : o.op = .load 26 x) {g : Nat} (h : Bx w g 26 cs) (hs : cs.size = 2) (hx : a.eval x = .pointer (some ⟨g, 0, none⟩)) (K : wpList Try.prog ops Q rest (a.put o.dst (.agg cs)) w) : wpList Try.prog ops Q (o :: rest) a w :=
  wpList_load_row hgd _ x ho g hx _ cs (0, 0) _ h Try.underlying26 rfl (by rw [GR_info, hs]) K
theorem resGR {fn : Func} {p : Tmp} {tmps : Array Value} {g : Nat} (h : fn.results = #[.cell p 26]) (hb : Bx w g 26 cs) (hs : cs.size = 2) (hp : tmps.getD p undef = .pointer (some ⟨g, 0, none⟩)) : (results fn tmps).run Try.prog w = .ok (.agg cs) w :=
  results_cell_row h tmps w g _ cs (0, 0) _ hp hb Try.underlying26 rfl (by rw [GR_info, hs])
end
theorem or_bit {x b : Nat} (hx : x < 65536) (hb : b < 10) : bits .or .u16 (x : Int) (IntKind.u16.wrap (2 ^ b)) = ((x ||| 2 ^ b : Nat) : Int) := by
  have e : IntKind.u16.wrap (2 ^ b) = ((2 ^ b : Nat) : Int) := by
    rcases lt10 hb with rfl | rfl | rfl | rfl | rfl | rfl | rfl | rfl | rfl | rfl <;> rfl
  rw [e, u16_or_nat _ _ hx (Nat.lt_of_lt_of_le (Nat.pow_lt_pow_right (by omega) hb) (by decide))]
set_option maxRecDepth 100000 in
theorem withAttack_any {w : World} {n : Int} {f : Nat → Nat} {a b : Nat} (ha : a < 10) (hb : b < 10) (hf : f a < 65536) :
    Calls Try.prog 38 #[.agg (arC n f), .int .i64 a, .int .i64 b] w (fun e w' => e = .returned (.agg (arC n (upd f a b))) ∧ Below w.heap.size w w') := by
  have hb1 : Below w.heap.size w (w.alloc (Obj.cells (arC n f) 60)) := (Below.refl _ _).alloc (Nat.le_refl _) _
  have hb2 : Below w.heap.size w ((w.alloc (Obj.cells (arC n f) 60)).alloc (Obj.cells (arC 0 fun _ => 0) 60)) := hb1.alloc (by simp) _
  have bx1 : Bx ((w.alloc (Obj.cells (arC n f) 60)).alloc (Obj.cells (arC 0 fun _ => 0) 60)) w.heap.size 60 (arC n f) := (Bx.made w _ _).new ((Below.refl _ _).alloc (Nat.le_refl _) _)
  have bx2 : Bx ((w.alloc (Obj.cells (arC n f) 60)).alloc (Obj.cells (arC 0 fun _ => 0) 60)) (w.heap.size + 1) 60 (arC 0 fun _ => 0) := by
    have := Bx.made (w.alloc (Obj.cells (arC n f) 60)) 60 (arC 0 fun _ => 0)
    simpa using this
  obtain ⟨W2, hW⟩ : ∃ u : World, u = (w.alloc (Obj.cells (arC n f) 60)).alloc (Obj.cells (arC 0 fun _ => 0) 60) := ⟨_, rfl⟩
  rw [← hW] at hb2 bx1 bx2
  have c1 := bx1.at_ (arC_at n f ha)
  have f1 := bx1.free (1 + a)
  have i1 : (0 : Int) ≤ (a : Int) := by omega
  have i2 : (a : Int) < 10 := by omega
  have i3 : (0 : Int) ≤ (b : Int) := by omega
  have i4 : (b : Int) < 10 := by omega
  go_enter Try.func38, Try.ntmps38
  go_wp2_with fail
  rw [arC_zero, ← hW]
  clear hW
  go_region
  rw [or_bit hf hb]
  have bx3 := ((bx1.set (1 + a) (.int .u16 ((f a ||| 2 ^ b : Nat) : Int))).drew_)
  have bx4 := ((bx2.far (p := ⟨w.heap.size, 1 + a, none⟩) (by simp) (.int .u16 ((f a ||| 2 ^ b : Nat) : Int))).drew_)
  have hb3 := (hb2.setCell (p := ⟨w.heap.size, 1 + a, none⟩) (by simp) (.int .u16 ((f a ||| 2 ^ b : Nat) : Int))).drew
  rw [arC_upd n f ha b] at bx3
  obtain ⟨W3, hW3⟩ : ∃ u : World, u = (W2.setCell ⟨w.heap.size, 1 + a, none⟩ (.int .u16 ((f a ||| 2 ^ b : Nat) : Int))).drew := ⟨_, rfl⟩
  rw [← hW3] at bx3 bx4 hb3 ⊢
  clear hW3 bx1 bx2 c1 f1 hb1 hb2
  go_wp2_with (first | (refine ldAR rfl (.tmp 3) rfl bx3 rfl rfl ?_) | (refine stAR rfl (.tmp 6) (.tmp 16) rfl bx4 rfl rfl rfl ?_))
  refine bodyPost_ret (resAR rfl (bx4.setRow (arC n (upd f a b))) rfl rfl) rfl ⟨rfl, hb3.trans ((setRow_out W3 _ _ (Nat.le_refl _) (Nat.lt_succ_self _)).below (by omega) hb3.size)⟩
theorem has_bit (x k : Nat) (hx : x < 65536) : (bits .and .u16 ((x : Int) / 2 ^ k) 1 == 1) = x.testBit k := by
  have e : ((x : Int) / 2 ^ k) = ((x / 2 ^ k : Nat) : Int) := by push_cast; rfl
  have hl : x / 2 ^ k < 65536 := Nat.lt_of_le_of_lt (Nat.div_le_self _ _) hx
  rw [e, show (1 : Int) = ((1 : Nat) : Int) from rfl, u16_and_nat _ _ hl (by omega), Nat.and_one_is_mod, Nat.testBit_eq_decide_div_mod_eq]
  by_cases h : x / 2 ^ k % 2 = 1
  · rw [h]; simp
  · simp [h]
    omega
theorem has_any {w : World} {x : Nat} {c : Int} (hx : x < 65536) : Calls Try.prog 47 #[.int .u16 x, .int .i64 c] w (fun e w' => e = .returned (.bool (inr c 0 9 && x.testBit c.toNat)) ∧ w = w') := by
  by_cases hc : 0 ≤ c ∧ c ≤ 9
  · obtain ⟨h0, h1⟩ := hc
    obtain ⟨k, rfl⟩ := Int.eq_ofNat_of_zero_le h0
    have e1 : inr (k : Int) 0 9 = true := inr_t h0 h1
    go_enter Try.func47, Try.ntmps47
    go_wp2_with (go_at_call 36; refine (isClaim_any (by omega) (by omega)).mono ?_; rintro e w1 ⟨he, rfl⟩; rw [show (10 : Int) - 1 = 9 from rfl, e1] at he; subst he)
    go_ret
    exact ⟨ret_b (by rw [e1, Int.toNat_natCast, Bool.true_and]; exact has_bit x k hx), rfl⟩
  · have e1 : inr c 0 9 = false := inr_f (by omega)
    go_enter Try.func47, Try.ntmps47
    go_wp2_with (go_at_call 36; refine (isClaim_any (by omega) (by omega)).mono ?_; rintro e w1 ⟨he, rfl⟩; rw [show (10 : Int) - 1 = 9 from rfl, e1] at he; subst he)
    go_ret
    exact ⟨ret_b (by rw [e1]; rfl), rfl⟩
end Go.Proofs.Ytncndlojceiejaa
