/- Contracts of the code's rows of attacks (attackRows, claimBits). Conditions: claims below 10, rows below 2^16. -/
import Derived.Test.YtncndlojceiejaaMg2
import Derived.Test.YtncndlojceiejaaMg3
import Derived.Laws.BitsAllLaws
import Derived.Laws.Tables
import Derived.IntWalk
import Derived.Test.YtncndlojceiejaaMg1
import Derived.Deep.RegionWith
namespace Go.Proofs.Ytncndlojceiejaa
open Go.ChangeShapes Go.WideShapes Go.ChangeAt Go.RowKit
/-- The cells of a value of type attackRows. -/
def arC (n : Int) (f : Nat → Nat) : Array Value := #[.int .i64 n, .int .u16 (f 0 : Nat), .int .u16 (f 1 : Nat), .int .u16 (f 2 : Nat), .int .u16 (f 3 : Nat), .int .u16 (f 4 : Nat), .int .u16 (f 5 : Nat), .int .u16 (f 6 : Nat), .int .u16 (f 7 : Nat), .int .u16 (f 8 : Nat), .int .u16 (f 9 : Nat)]
theorem isClaim_any {w : World} {n c : Int} (hn : -9223372036854775807 ≤ n) (hn2 : n ≤ 9223372036854775807) : Calls Try.prog 36 #[.int .i64 n, .int .i64 c] w (fun e w' => e = .returned (.bool (inr c 0 (n - 1))) ∧ w = w') := by
  go_enter Try.func36, Try.ntmps36
  go_wp2_with (go_at_call 44; refine (inRange_any _ _ _ _).mono ?_; rintro e w1 ⟨rfl, rfl⟩)
  go_ret
  exact ⟨rfl, rfl⟩
def upd (f : Nat → Nat) (a b : Nat) : Nat → Nat := fun k => if k = a then f k ||| 2 ^ b else f k
theorem lt10 {a : Nat} (h : a < 10) : a = 0 ∨ a = 1 ∨ a = 2 ∨ a = 3 ∨ a = 4 ∨ a = 5 ∨ a = 6 ∨ a = 7 ∨ a = 8 ∨ a = 9 := by omega
theorem arC_at (n : Int) (f : Nat → Nat) {a : Nat} (ha : a < 10) : (arC n f)[1 + a]? = some (.int .u16 (f a : Nat)) := by
  rcases lt10 ha with rfl | rfl | rfl | rfl | rfl | rfl | rfl | rfl | rfl | rfl <;> rfl
theorem arC_upd (n : Int) (f : Nat → Nat) {a : Nat} (ha : a < 10) (b : Nat) : (arC n f).setIfInBounds (1 + a) (.int .u16 ((f a ||| 2 ^ b : Nat) : Int)) = arC n (upd f a b) := by
  rcases lt10 ha with rfl | rfl | rfl | rfl | rfl | rfl | rfl | rfl | rfl | rfl <;> simp [arC, upd]
theorem arC_zero : #[Value.int .i64 0, .int .u16 0, .int .u16 0, .int .u16 0, .int .u16 0, .int .u16 0, .int .u16 0, .int .u16 0, .int .u16 0, .int .u16 0, .int .u16 0] = arC 0 fun _ => 0 := rfl
theorem arC_one (n : Int) (f : Nat → Nat) : ∀ v ∈ (arC n f).toList, v.oneCell' = true := by simp [arC, Value.oneCell']
section
variable {P : Program} {w w' : World} {g : Nat} {t : TypeId} {cs cs' : Array Value}
theorem Bx.at_ (h : Bx w g t cs) {k : Nat} {v : Value} (hk : cs[k]? = some v) : w.cell? ⟨g, k, none⟩ = some v := by
  rw [cell_of_row w g k cs t (0, 0) h]; exact hk
theorem Bx.free (h : Bx w g t cs) (k : Nat) : w.frozen? ⟨g, k, none⟩ = false := frozen_of_row w g k cs t h
theorem Bx.set (h : Bx w g t cs) (k : Nat) (u : Value) : Bx (w.setCell ⟨g, k, none⟩ u) g t (cs.setIfInBounds k u) := heap_setCell_same w g k cs t u h
theorem Bx.drew_ (h : Bx w g t cs) : Bx w.drew g t cs := h
theorem Bx.far (h : Bx w g t cs) {p : Addr} (hp : g ≠ p.block) (u : Value) : Bx (w.setCell p u) g t cs := (Below.heap_setCell w p u g hp).trans h
/-- The whole block is loaded. -/
theorem Bx.load (h : Bx w g t cs) {n : Nat} (hn : cs.size = n) : (loadCellsFrom ⟨g, 0, none⟩ 0 n #[]).run P w = .ok cs w := by
  subst hn
  have := run_loadCells_list (P := P) w ⟨g, 0, none⟩ cs.toList (fun j v hv => by
    have hadd : (⟨g, 0, none⟩ : Addr).add j = ⟨g, j, none⟩ := by unfold Addr.add; split <;> simp_all
    rw [hadd, cell_of_row _ _ j cs t (0, 0) h]
    simpa using hv)
  simpa [loadCells] using this
theorem setRow_out (w : World) (g : Nat) (cs : Array Value) {lo hi : Nat} (h1 : lo ≤ g) (h2 : g < hi) : Out lo hi w (w.setRow g cs) :=
  ⟨rfl, rfl, rfl, by simp [World.setRow], fun k _ hk => by
    have : g ≠ k := by omega
    simp [World.setRow, Array.getElem?_modify, this]⟩
theorem Bx.setRow (h : Bx w g t cs) (cs' : Array Value) : Bx (w.setRow g cs') g t cs' := by
  have hlt := h.lt
  have h' : w.heap[g] = .cells cs t (0, 0) := by simpa [Bx, Array.getElem?_eq_getElem hlt] using h
  show (w.heap.modify g _)[g]? = _
  rw [Array.getElem?_eq_getElem (by simpa using hlt), Array.getElem_modify_self, h']
/-- The whole block is stored. -/
theorem Bx.store (h : Bx w g t cs) (hs : cs'.size = cs.size) (h1 : ∀ v ∈ cs'.toList, v.oneCell' = true) : (storeCells ⟨g, 0, none⟩ cs'.toList 0).run P w = .ok () (w.setRow g cs') := by
  have := run_storeCells_from (P := P) g t cs'.toList 0 cs w h (by simpa using hs) h1
  simpa using this
end
theorem AR_info : (Try.prog.info? 60).map (·.size) = some 11 := by kernel_rfl
theorem GR_info : (Try.prog.info? 26).map (·.size) = some 2 := by kernel_rfl
section
variable {w : World} {ops : Array Oper} {rest : List Oper} {o : Oper} {a : Act} {Q : Exit → Act → World → Prop} {cs : Array Value}
theorem ldAR (hgd : o.guard = none) (x : Operand) (ho : o.op = .load 60 x) {g : Nat} (h : Bx w g 60 cs) (hs : cs.size = 11) (hx : a.eval x = .pointer (some ⟨g, 0, none⟩)) (K : wpList Try.prog ops Q rest (a.put o.dst (.agg cs)) w) : wpList Try.prog ops Q (o :: rest) a w :=
  wpList_load_row hgd _ x ho g hx _ cs (0, 0) _ h Try.underlying60 rfl (by rw [AR_info, hs]) K
theorem stAR (hgd : o.guard = none) (x y : Operand) (ho : o.op = .store 60 x y) {g : Nat} {n : Int} {f : Nat → Nat} (h : Bx w g 60 cs) (hs : cs.size = 11) (hx : a.eval x = .pointer (some ⟨g, 0, none⟩)) (hy : a.eval y = .agg (arC n f)) (K : wpList Try.prog ops Q rest (a.put o.dst undef) (w.setRow g (arC n f))) : wpList Try.prog ops Q (o :: rest) a w :=
  wpList_store_row hgd _ x y ho g (arC n f) hx hy _ cs h (by rw [AR_info]; rfl) (by rw [hs]; rfl) (by simp [arC, Value.oneCell']) K
theorem resAR {fn : Func} {p : Tmp} {tmps : Array Value} {g : Nat} (h : fn.results = #[.cell p 60]) (hb : Bx w g 60 cs) (hs : cs.size = 11) (hp : tmps.getD p undef = .pointer (some ⟨g, 0, none⟩)) : (results fn tmps).run Try.prog w = .ok (.agg cs) w :=
  results_cell_row h tmps w g _ cs (0, 0) _ hp hb Try.underlying60 rfl (by rw [AR_info, hs])
theorem ldGR (hgd : o.guard = none) (x : Operand) (ho : o.op = .load 26 x) {g : Nat} (h : Bx w g 26 cs) (hs : cs.size = 2) (hx : a.eval x = .pointer (some ⟨g, 0, none⟩)) (K : wpList Try.prog ops Q rest (a.put o.dst (.agg cs)) w) : wpList Try.prog ops Q (o :: rest) a w :=
  wpList_load_row hgd _ x ho g hx _ cs (0, 0) _ h Try.underlying26 rfl (by rw [GR_info, hs]) K
theorem resGR {fn : Func} {p : Tmp} {tmps : Array Value} {g : Nat} (h : fn.results = #[.cell p 26]) (hb : Bx w g 26 cs) (hs : cs.size = 2) (hp : tmps.getD p undef = .pointer (some ⟨g, 0, none⟩)) : (results fn tmps).run Try.prog w = .ok (.agg cs) w :=
  results_cell_row h tmps w g _ cs (0, 0) _ hp hb Try.underlying26 rfl (by rw [GR_info, hs])
end
theorem or_bit {x b : Nat} (hx : x < 65536) (hb : b < 10) : bits .or .u16 (x : Int) (IntKind.u16.wrap (2 ^ b)) = ((x ||| 2 ^ b : Nat) : Int) := by
  have e : IntKind.u16.wrap (2 ^ b) = ((2 ^ b : Nat) : Int) := by
    rcases lt10 hb with rfl | rfl | rfl | rfl | rfl | rfl | rfl | rfl | rfl | rfl <;> rfl
  rw [e, u16_or_nat _ _ hx (Nat.lt_of_lt_of_le (Nat.pow_lt_pow_right (by omega) hb) (by decide))]
set_option maxRecDepth 100000 in
theorem withAttack_any {w : World} {n : Int} {f : Nat → Nat} {a b : Nat} (ha : a < 10) (hb : b < 10) (hf : f a < 65536) :
    Calls Try.prog 38 #[.agg (arC n f), .int .i64 a, .int .i64 b] w (fun e w' => e = .returned (.agg (arC n (upd f a b))) ∧ Below w.heap.size w w') := by
  have hb1 : Below w.heap.size w (w.alloc (Obj.cells (arC n f) 60)) := (Below.refl _ _).alloc (Nat.le_refl _) _
  have hb2 : Below w.heap.size w ((w.alloc (Obj.cells (arC n f) 60)).alloc (Obj.cells (arC 0 fun _ => 0) 60)) := hb1.alloc (by simp) _
  have bx1 : Bx ((w.alloc (Obj.cells (arC n f) 60)).alloc (Obj.cells (arC 0 fun _ => 0) 60)) w.heap.size 60 (arC n f) := (Bx.made w _ _).new ((Below.refl _ _).alloc (Nat.le_refl _) _)
  have bx2 : Bx ((w.alloc (Obj.cells (arC n f) 60)).alloc (Obj.cells (arC 0 fun _ => 0) 60)) (w.heap.size + 1) 60 (arC 0 fun _ => 0) := by
    have := Bx.made (w.alloc (Obj.cells (arC n f) 60)) 60 (arC 0 fun _ => 0)
    simpa using this
  obtain ⟨W2, hW⟩ : ∃ u : World, u = (w.alloc (Obj.cells (arC n f) 60)).alloc (Obj.cells (arC 0 fun _ => 0) 60) := ⟨_, rfl⟩
  rw [← hW] at hb2 bx1 bx2
  have c1 := bx1.at_ (arC_at n f ha)
  have f1 := bx1.free (1 + a)
  have i1 : (0 : Int) ≤ (a : Int) := by omega
  have i2 : (a : Int) < 10 := by omega
  have i3 : (0 : Int) ≤ (b : Int) := by omega
  have i4 : (b : Int) < 10 := by omega
  go_enter Try.func38, Try.ntmps38
  go_wp2_with fail
  rw [arC_zero, ← hW]
  clear hW
  go_region
  rw [or_bit hf hb]
  have bx3 := ((bx1.set (1 + a) (.int .u16 ((f a ||| 2 ^ b : Nat) : Int))).drew_)
  have bx4 := ((bx2.far (p := ⟨w.heap.size, 1 + a, none⟩) (by simp) (.int .u16 ((f a ||| 2 ^ b : Nat) : Int))).drew_)
  have hb3 := (hb2.setCell (p := ⟨w.heap.size, 1 + a, none⟩) (by simp) (.int .u16 ((f a ||| 2 ^ b : Nat) : Int))).drew
  rw [arC_upd n f ha b] at bx3
  obtain ⟨W3, hW3⟩ : ∃ u : World, u = (W2.setCell ⟨w.heap.size, 1 + a, none⟩ (.int .u16 ((f a ||| 2 ^ b : Nat) : Int))).drew := ⟨_, rfl⟩
  rw [← hW3] at bx3 bx4 hb3 ⊢
  clear hW3 bx1 bx2 c1 f1 hb1 hb2
  go_wp2_with (first | (refine ldAR rfl (.tmp 3) rfl bx3 rfl rfl ?_) | (refine stAR rfl (.tmp 6) (.tmp 16) rfl bx4 rfl rfl rfl ?_))
  refine bodyPost_ret (resAR rfl (bx4.setRow (arC n (upd f a b))) rfl rfl) rfl ⟨rfl, hb3.trans ((setRow_out W3 _ _ (Nat.le_refl _) (Nat.lt_succ_self _)).below (by omega) hb3.size)⟩
theorem has_bit (x k : Nat) (hx : x < 65536) : (bits .and .u16 ((x : Int) / 2 ^ k) 1 == 1) = x.testBit k := by
  have e : ((x : Int) / 2 ^ k) = ((x / 2 ^ k : Nat) : Int) := by push_cast; rfl
  have hl : x / 2 ^ k < 65536 := Nat.lt_of_le_of_lt (Nat.div_le_self _ _) hx
  rw [e, show (1 : Int) = ((1 : Nat) : Int) from rfl, u16_and_nat _ _ hl (by omega), Nat.and_one_is_mod, Nat.testBit_eq_decide_div_mod_eq]
  by_cases h : x / 2 ^ k % 2 = 1
  · rw [h]; simp
  · simp [h]
    omega
theorem has_any {w : World} {x : Nat} {c : Int} (hx : x < 65536) : Calls Try.prog 47 #[.int .u16 x, .int .i64 c] w (fun e w' => e = .returned (.bool (inr c 0 9 && x.testBit c.toNat)) ∧ w = w') := by
  by_cases hc : 0 ≤ c ∧ c ≤ 9
  · obtain ⟨h0, h1⟩ := hc
    obtain ⟨k, rfl⟩ := Int.eq_ofNat_of_zero_le h0
    have e1 : inr (k : Int) 0 9 = true := inr_t h0 h1
    go_enter Try.func47, Try.ntmps47
    go_wp2_with (go_at_call 36; refine (isClaim_any (by omega) (by omega)).mono ?_; rintro e w1 ⟨he, rfl⟩; rw [show (10 : Int) - 1 = 9 from rfl, e1] at he; subst he)
    go_ret
    exact ⟨ret_b (by rw [e1, Int.toNat_natCast, Bool.true_and]; exact has_bit x k hx), rfl⟩
  · have e1 : inr c 0 9 = false := inr_f (by omega)
    go_enter Try.func47, Try.ntmps47
    go_wp2_with (go_at_call 36; refine (isClaim_any (by omega) (by omega)).mono ?_; rintro e w1 ⟨he, rfl⟩; rw [show (10 : Int) - 1 = 9 from rfl, e1] at he; subst he)
    go_ret
    exact ⟨ret_b (by rw [e1]; rfl), rfl⟩
end Go.Proofs.Ytncndlojceiejaa

/- Contracts of the code's victims of a claim, and of the list of a row's claims. Conditions: at most 10 claims, rows below 2^16. -/
namespace Go.Proofs.Ytncndlojceiejaa
open Go.ChangeShapes Go.WideShapes Go.ChangeAt Go.RowKit
def vic (n : Int) (f : Nat → Nat) (c : Int) : Nat := if inr c 0 (n - 1) then f c.toNat else 0
theorem victims_any {w : World} {n c : Int} {f : Nat → Nat} (h0 : 0 ≤ n) (h1 : n ≤ 10) :
    Calls Try.prog 46 #[.agg (arC n f), .int .i64 c] w (fun e w' => e = .returned (.int .u16 (vic n f c : Nat)) ∧ Below w.heap.size w w') := by
  have hb : Below w.heap.size w (w.alloc (Obj.cells (arC n f) 60)) := (Below.refl _ _).alloc (Nat.le_refl _) _
  have bx := Bx.made w 60 (arC n f)
  obtain ⟨W1, hW⟩ : ∃ u : World, u = w.alloc (Obj.cells (arC n f) 60) := ⟨_, rfl⟩
  rw [← hW] at hb bx
  have c0 := bx.at_ (k := 0) (v := .int .i64 n) rfl
  by_cases hi : inr c 0 (n - 1) = true
  · have hv : vic n f c = f c.toNat := by unfold vic; rw [if_pos hi]
    have hc : 0 ≤ c ∧ c ≤ n - 1 := by simpa [inr] using hi
    obtain ⟨k, rfl⟩ := Int.eq_ofNat_of_zero_le hc.1
    rw [Int.toNat_natCast] at hv
    have ck := bx.at_ (arC_at n f (a := k) (by omega))
    have HV := Lib.hid hv
    have HI := Lib.hid hi
    obtain ⟨x, hx⟩ : ∃ x, x = f k := ⟨_, rfl⟩
    rw [← hx] at ck HV
    have i1 : (0 : Int) ≤ (k : Int) := by omega
    have i2 : (k : Int) < 10 := by omega
    clear hv hi hx bx
    go_enter Try.func46, Try.ntmps46
    have hW' := hW.symm
    clear hW
    go_wp2_with (go_at_call 36; refine (isClaim_any (by omega) (by omega)).mono ?_; rintro e w1 ⟨he, rfl⟩; rw [HI.out] at he; subst he)
    go_ret
    exact ⟨by rw [HV.out]; rfl, hb⟩
  · have hi' : inr c 0 (n - 1) = false := by simpa using hi
    have HV := Lib.hid (show vic n f c = 0 by unfold vic; rw [if_neg hi])
    have HI := Lib.hid hi'
    clear hi hi' bx
    go_enter Try.func46, Try.ntmps46
    have hW' := hW.symm
    clear hW
    go_wp2_with (go_at_call 36; refine (isClaim_any (by omega) (by omega)).mono ?_; rintro e w1 ⟨he, rfl⟩; rw [HI.out] at he; subst he)
    go_ret
    exact ⟨by rw [HV.out]; rfl, hb⟩
/-- The claims of a row, in order. -/
def lsT (x k : Nat) : List Int := ((List.range k).filter (x.testBit ·)).map fun (j : Nat) => (j : Int)
theorem lsT_yes {x k : Nat} (h : x.testBit k = true) : lsT x (k + 1) = lsT x k ++ [(k : Int)] := by simp [lsT, List.range_succ, h]
theorem lsT_no {x k : Nat} (h : x.testBit k = false) : lsT x (k + 1) = lsT x k := by simp [lsT, List.range_succ, h]
theorem lsT_len (x k : Nat) : (lsT x k).length ≤ k := by
  unfold lsT
  rw [List.length_map]
  exact Nat.le_trans (List.length_filter_le _ _) (by simp)
theorem ivs_snoc_l (zs : List Int) (x : Int) : ivs zs ++ [Value.int .i64 x] = ivs (zs ++ [x]) := by simp [ivs]
set_option maxRecDepth 100000 in
set_option maxHeartbeats 1600000 in
theorem list_any {w : World} {x : Nat} (hx : x < 65536) : Calls Try.prog 49 #[.int .u16 x] w (Fresh 3 (ivs (lsT x 10)) w) := by
  obtain ⟨i0, hi, hz0, hz1, hz2⟩ := info_parts IntS_info
  have hrow0 := Row.made (w := w) w.heap.size #[] 0 3 (Nat.le_refl _) rfl (Nat.zero_le _)
  have hb0 : Below w.heap.size w (w.alloc (Obj.cells #[] 3)) := (Below.refl _ _).alloc (Nat.le_refl _) _
  go_enter Try.func49, Try.ntmps49
  go_wp2
  go_loopw [3, 6] (fun b i wr => ∃ k : Nat, k ≤ 10 ∧ i = .int .i64 k ∧ Row wr w.heap.size wr.heap.size 3 b (ivs (lsT x k)) ∧ Below w.heap.size w wr) (fun _ i _ => 10 - (intOf i).toNat)
  case atStart => exact ⟨0, Nat.zero_le _, rfl, hrow0.wide (Nat.le_refl _) (by simp), hb0⟩
  case round =>
    obtain ⟨k, hk, rfl, hrow, hbw⟩ := hrel
    have hsz := hbw.size
    clear hrow0 hb0
    by_cases hlt : k < 10
    · have e1 : inr (k : Int) 0 9 = true := inr_t (by omega) (by omega)
      obtain ⟨ys, hys⟩ : ∃ ys, ys = lsT x k := ⟨_, rfl⟩
      have hyl : ys.length ≤ k := by rw [hys]; exact lsT_len x k
      by_cases hb : x.testBit k = true
      · have HT := Lib.hid (lsT_yes hb)
        have HB := Lib.hid (show (inr (k : Int) 0 9 && x.testBit (k : Int).toNat) = true by rw [e1, Int.toNat_natCast, hb]; rfl)
        rw [← hys] at hrow HT
        have hbl : Below wr.heap.size wr (wr.alloc (Obj.cells #[Value.int .i64 k] 3)) := (Below.refl _ _).alloc (Nat.le_refl _) _
        have hrow2 := hrow.new hbl
        have hmade := Rd.made wr #[Value.int .i64 k] 3
        have L : (ivs ys).length + 1 ≤ maxLen ∧ ((ivs ys).length + 1) * 8 ≤ 140737488355328 := by rw [ivs_len]; unfold maxLen; omega
        have L1 := Lib.hid L
        clear L hys hb e1
        go_wp2_with (first
          | (go_at_call 47; refine (has_any hx).mono ?_; rintro e w1 ⟨he, rfl⟩; rw [HB.out] at he; subst he)
          | (at_builtin; refine wpList_app rfl (.tmp 12) (.tmp 14) 40 rfl 3 i0 _ 8 Try.underlying40 hi hz0 hz1 hz2 rfl rfl rfl hrow2 rfl hmade (by simp [Value.oneCell']) L1.out.1 L1.out.2 (by simp; omega) ?_; intro v1 w1 hrow1 ho1))
        go_roundw
        case rel => exact ⟨k + 1, by omega, by go_num, by rw [HT.out, ← ivs_snoc_l]; exact hrow1, hbw.trans ((hbl.mono hsz).trans (ho1.below (Nat.le_refl _) (by simp; omega)))⟩
        case measure => simp [intOf]; omega
      · have hb' : x.testBit k = false := by simpa using hb
        have HT := Lib.hid (lsT_no hb')
        have HB := Lib.hid (show (inr (k : Int) 0 9 && x.testBit (k : Int).toNat) = false by rw [e1, Int.toNat_natCast, hb']; rfl)
        rw [← hys] at hrow HT
        clear hys hb hb' e1
        go_wp2_with (go_at_call 47; refine (has_any hx).mono ?_; rintro e w1 ⟨he, rfl⟩; rw [HB.out] at he; subst he)
        go_roundw
        case rel => exact ⟨k + 1, by omega, by go_num, by rw [HT.out]; exact hrow, hbw⟩
        case measure => simp [intOf]; omega
    · have e : k = 10 := by omega
      subst e
      go_wp2
      go_ret
      exact ⟨_, rfl, hrow, hbw⟩
end Go.Proofs.Ytncndlojceiejaa

/- Contracts of chapter 4's models. No conditions but that the slices have at most 2^40 elements. -/
namespace Go.Proofs.Ytncndlojceiejaa
open Go.ChangeShapes Go.WideShapes Go.ChangeAt Go.RowKit
def okA (M : Int) (a : List Int) : Bool := decide (a.length = 2) && inr (a.getD 0 0) 0 M && inr (a.getD 1 0) 0 M
def ltP (b a : List Int) : Bool := !(decide (a.getD 0 0 < b.getD 0 0) || decide (b.getD 0 0 = a.getD 0 0) && decide (a.getD 1 0 ≤ b.getD 1 0))
def okI (M : Int) (X : List (List Int)) (i : Nat) : Bool := okA M (X.getD i []) && (decide (i = 0) || ltP (X.getD (i - 1) []) (X.getD i []))
def GPre (M : Int) (X : List (List Int)) (k : Nat) : Prop := ∀ i, i < k → okI M X i = true
instance (M : Int) (X : List (List Int)) (k : Nat) : Decidable (GPre M X k) := inferInstanceAs (Decidable (∀ i, i < k → okI M X i = true))
def gB (N : Int) (X : List (List Int)) : Bool := decide (GPre (IntKind.i64.wrap (N - 1)) X X.length) && inr N 0 10
theorem gB_bad {N : Int} {X : List (List Int)} {k : Nat} (hk : k < X.length) (h : okI (IntKind.i64.wrap (N - 1)) X k = false) : gB N X = false := by
  have : ¬ GPre (IntKind.i64.wrap (N - 1)) X X.length := fun hp => by rw [hp k hk] at h; cases h
  simp [gB, this]
theorem gB_end {N : Int} {X : List (List Int)} (h : GPre (IntKind.i64.wrap (N - 1)) X X.length) : gB N X = inr N 0 10 := by simp [gB, h]
theorem GPre.succ {M : Int} {X : List (List Int)} {k : Nat} (h : GPre M X k) (hk : okI M X k = true) : GPre M X (k + 1) := fun i hi => by
  rcases Nat.lt_or_ge i k with h' | h'
  · exact h i h'
  · have : i = k := by omega
    subst this; exact hk
theorem getD_at {X : List (List Int)} {k : Nat} (h : k < X.length) : X.getD k [] = X[k] := by simp [List.getD, h]
theorem okI_two {M : Int} {X : List (List Int)} {k : Nat} (h : okI M X k = true) (hk : k < X.length) : ∃ p q, X[k] = [p, q] := by
  unfold okI okA at h
  simp only [Bool.and_eq_true, decide_eq_true_eq, getD_at hk] at h
  obtain ⟨⟨⟨h1, _⟩, _⟩, _⟩ := h
  match hx : X[k], (show X[k].length = 2 from h1) with
  | [p, q], _ => exact ⟨p, q, rfl⟩
theorem rd2 {w : World} {B : Nat} {A : Option Addr} {p q : Int} (h : Rd w B A (ivs [p, q])) : ∃ g o, A = some ⟨g, o, none⟩ ∧ g < B ∧ w.cell? ⟨g, o, none⟩ = some (.int .i64 p) ∧ w.cell? ⟨g, o + 1, none⟩ = some (.int .i64 q) := by
  obtain ⟨ad, e, hb, hc⟩ := h 0 _ rfl
  obtain ⟨ad', e', _, hc'⟩ := h 1 _ rfl
  have : ad' = ad := by rw [e] at e'; injection e' with e'; exact e'.symm
  subst this
  obtain ⟨g, o, s⟩ := ad'
  have hs : s = none := by simpa [Addr.add] using World.cell?_spot hc
  subst hs
  rw [Addr.add_lit] at hc hc'
  exact ⟨g, o, e, hb, hc, hc'⟩
theorem l1In_Q {w : World} (a lo hi : Int) {b : Bool} (hb : inr a lo hi = b) : ∀ m, Calls Try.prog 55 #[.int .i64 a, .int .i64 lo, .int .i64 hi] (w.drewN m) (fun e w' => e = .returned (.bool b) ∧ ∃ m', w' = (w.drewN m).drewN m') := fun m =>
  (l1In_any a lo hi _).mono fun e w' ⟨h1, h2⟩ => ⟨by rw [h1, hb], 0, h2.symm⟩
set_option maxHeartbeats 8000000 in
set_option maxRecDepth 100000 in
theorem specIsGraph_any {w : World} {A : Option Addr} {n c : Nat} {N : Int} {X : List (List Int)} (hl : Hid (X.length = n)) (hn : n ≤ 1099511627776) (hr : RdSS w w.heap.size A X) :
    Calls Try.prog 32 #[.agg #[.int .i64 N, .slice A n c]] w (Tells (gB N X) w) := by
  have hb0 : Below w.heap.size w (w.alloc (Obj.cells #[Value.int IntKind.i64 N, Value.slice A n c] 26)) := (Below.refl _ _).alloc (Nat.le_refl _) _
  have hr1 := hr.below hb0
  clear hr
  obtain ⟨M, hM⟩ : ∃ M, IntKind.i64.wrap (N - 1) = M := ⟨_, rfl⟩
  have HM := Lib.hid hM
  go_enter Try.func32, Try.ntmps32
  go_wp2
  obtain ⟨W1, hW⟩ : ∃ u : World, u = w.alloc (Obj.cells #[Value.int IntKind.i64 N, Value.slice A n c] 26) := ⟨_, rfl⟩
  rw [← hW] at hr1 hb0 ⊢
  have hbx : Bx W1 w.heap.size 26 #[Value.int IntKind.i64 N, Value.slice A n c] := by rw [hW]; exact Bx.made _ _ _
  obtain ⟨C0, C1⟩ := hbx.two
  clear hW hbx
  go_loopw [3] (fun i wr => ∃ k m : Nat, k ≤ n ∧ i = .int .i64 k ∧ wr = W1.drewN m ∧ Hid (GPre (M) X k)) (fun i _ => n - (intOf i).toNat)
  case atStart => exact ⟨0, 0, Nat.zero_le _, rfl, rfl, Lib.hid (fun i hi => absurd hi (by omega))⟩
  case round =>
    obtain ⟨k, m, hk, rfl, rfl, hpre⟩ := hrel
    by_cases hlt : k < n
    · have hkz : k < X.length := by rw [hl.out]; exact hlt
      obtain ⟨ad, Aj, cj, rfl, hab, hc, _, _, hrd⟩ := hr1.at_ hkz
      by_cases h2 : X[k].length = 2
      · obtain ⟨p, q, hx⟩ : ∃ p q, X[k] = [p, q] := by
          match hx : X[k], h2 with
          | [p, q], _ => exact ⟨p, q, rfl⟩
        have hxD := Lib.hid (show X.getD k [] = [p, q] by rw [getD_at hkz, hx])
        rw [hx] at hc hrd
        obtain ⟨ag, ao, rfl, ha2, e0, e1⟩ := rd2 hrd
        clear h2 hx hrd
        rw [show ([p, q] : List Int).length = 2 from rfl] at hc
        by_cases i1 : inr p 0 (M) = true
        · have J1 := Lib.hid (l1In_Q (w := W1) p 0 (M) i1)
          by_cases i2 : inr q 0 (M) = true
          · have J2 := Lib.hid (l1In_Q (w := W1) q 0 (M) i2)
            have I1 := Lib.hid i1
            have I2 := Lib.hid i2
            clear i1 i2
            go_wp2
            go_quiet ((first | (go_at_call_of 55 (Value.int IntKind.i64 p); with_reducible exact quiet_addQ J1.out) | (go_at_call_of 55 (Value.int IntKind.i64 q); with_reducible exact quiet_addQ J2.out)))
            by_cases hk0 : k = 0
            · subst hk0
              have HP := Lib.hid (hpre.out.succ (by unfold okI okA; rw [hxD.out]; simp [I1.out, I2.out]))
              go_wp2
              go_roundw
              case rel => exact ⟨1, _, by omega, by go_num, rfl, HP.out⟩
              case measure => simp [intOf]; omega
            · have hkp : 0 < k := by omega
              have hk1 : k - 1 < X.length := by omega
              obtain ⟨p', q', hx'⟩ := okI_two (hpre.out (k - 1) (by omega)) hk1
              obtain ⟨ad', Aj', cj', had, hab', hc', _, _, hrd'⟩ := hr1.at_ hk1
              injection had with had
              subst had
              have hxD' := Lib.hid (show X.getD (k - 1) [] = [p', q'] by rw [getD_at hk1, hx'])
              rw [hx'] at hc' hrd'
              obtain ⟨bg, bo, rfl, hb2, f0, f1⟩ := rd2 hrd'
              rw [show ([p', q'] : List Int).length = 2 from rfl] at hc'
              clear hx' hrd' hb2 hab'
              by_cases g1 : p < p'
              · have HB := Lib.hid (gB_bad (N := N) hkz (by rw [HM.out]; unfold okI ltP; rw [hxD.out, hxD'.out]; simp [g1]; omega))
                have d1 : decide (p < p') = true := decide_eq_true g1
                go_wp2
                go_quiet (fail)
                go_wp2
                go_ret
                exact ⟨ret_b HB.out.symm, below_drewN (below_drewN hb0 _) _⟩
              · have d1 : decide (p < p') = false := decide_eq_false g1
                have g1' : p' ≤ p := by omega
                by_cases g2 : p' = p
                · subst g2
                  by_cases g3 : q ≤ q'
                  · have HB := Lib.hid (gB_bad (N := N) hkz (by rw [HM.out]; unfold okI ltP; rw [hxD.out, hxD'.out]; simp [g3]; omega))
                    go_wp2
                    go_quiet (fail)
                    go_wp2
                    go_ret
                    exact ⟨ret_b HB.out.symm, below_drewN (below_drewN hb0 _) _⟩
                  · have HP := Lib.hid (hpre.out.succ (by unfold okI okA ltP; rw [hxD.out, hxD'.out]; simp [I1.out, I2.out, g3]))
                    have g3' : q' < q := by omega
                    go_wp2
                    go_quiet (fail)
                    go_wp2
                    go_roundw
                    case rel => exact ⟨k + 1, _, by omega, by go_num, rfl, HP.out⟩
                    case measure => simp [intOf]; omega
                · have HP := Lib.hid (hpre.out.succ (by unfold okI okA ltP; rw [hxD.out, hxD'.out]; simp [I1.out, I2.out, g1, g2]))
                  have g2' : p' < p := by omega
                  have g4 : (p' == p) = false := by simpa using g2
                  go_wp2
                  go_quiet (fail)
                  go_wp2
                  go_roundw
                  case rel => exact ⟨k + 1, _, by omega, by go_num, rfl, HP.out⟩
                  case measure => simp [intOf]; omega
          · have i2' : inr q 0 (M) = false := by simpa using i2
            have J2 := Lib.hid (l1In_Q (w := W1) q 0 (M) i2')
            have HB := Lib.hid (gB_bad (N := N) hkz (by rw [HM.out]; unfold okI okA; rw [hxD.out]; simp [i2']))
            clear i1 i2 i2'
            go_wp2
            go_quiet ((first | (go_at_call_of 55 (Value.int IntKind.i64 p); with_reducible exact quiet_addQ J1.out) | (go_at_call_of 55 (Value.int IntKind.i64 q); with_reducible exact quiet_addQ J2.out)))
            go_wp2
            go_ret
            exact ⟨ret_b HB.out.symm, below_drewN (below_drewN hb0 _) _⟩
        · have i1' : inr p 0 (M) = false := by simpa using i1
          have J1 := Lib.hid (l1In_Q (w := W1) p 0 (M) i1')
          have HB := Lib.hid (gB_bad (N := N) hkz (by rw [HM.out]; unfold okI okA; rw [hxD.out]; simp [i1']))
          clear i1 i1'
          go_wp2
          go_quiet ((go_at_call 55; with_reducible exact quiet_addQ J1.out))
          go_wp2
          go_ret
          exact ⟨ret_b HB.out.symm, below_drewN (below_drewN hb0 _) _⟩
      · have HB := Lib.hid (gB_bad (N := N) hkz (by rw [HM.out]; unfold okI okA; rw [getD_at hkz]; simp [h2]))
        have h2' : ¬ ((X[k].length : Int) = 2) := by omega
        obtain ⟨x, hx⟩ : ∃ x, x = X[k] := ⟨_, rfl⟩
        rw [← hx] at hc h2 h2'
        have h2b : ((x.length : Int) == 2) = false := by simpa using h2'
        have h2c : ((x.length : Int) != 2) = true := by simpa using h2'
        have h2d : (x.length == 2) = false := by simpa using h2
        have h2e : (x.length != 2) = true := by simpa using h2
        clear hx hrd
        go_wp2
        go_quiet (fail)
        go_wp2
        go_ret
        exact ⟨ret_b HB.out.symm, below_drewN (below_drewN hb0 _) _⟩
    · have e : k = n := by omega
      subst e
      have HE := Lib.hid (gB_end (N := N) (X := X) (by rw [hl.out, HM.out]; exact hpre.out))
      go_wp2_with (go_at_call 55; refine (l1In_any _ _ _ _).mono ?_; rintro e w1 ⟨rfl, rfl⟩)
      go_ret
      exact ⟨ret_b HE.out.symm, below_drewN hb0 m⟩
end Go.Proofs.Ytncndlojceiejaa
