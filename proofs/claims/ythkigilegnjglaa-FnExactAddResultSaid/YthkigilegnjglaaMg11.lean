/- Words for a block of one cell, over any program. -/
import Derived.Test.YthkigilegnjglaaMg0
import Derived.Test.YthkigilegnjglaaMg9
import Derived.Test.YthkigilegnjglaaMg2
import Derived.Test.YthkigilegnjglaaMg10
import Derived.Laws.BitsAllLaws
import Derived.Laws.Tables
import Derived.IntWalk
namespace Go.Proofs.Ythkigilegnjglaa
open Go.ChangeShapes Go.WideShapes Go.ChangeAt Go.RowKit
/-- Block g is one cell of type t that holds v. -/
def One (w : World) (g : Nat) (t : TypeId) (v : Value) : Prop := w.heap[g]? = some (.cells #[v] t (0, 0))
section
variable {w w' : World} {g : Nat} {t : TypeId} {v : Value}
theorem One.lt (h : One w g t v) : g < w.heap.size := (Array.getElem?_eq_some_iff.1 h).1
theorem One.cell (h : One w g t v) : w.cell? ⟨g, 0, none⟩ = some v := by rw [cell_of_row w g 0 #[v] t (0, 0) h]; rfl
theorem One.free (h : One w g t v) : w.frozen? ⟨g, 0, none⟩ = false := frozen_of_row w g 0 #[v] t h
theorem One.new (w : World) (t : TypeId) (v : Value) : One (w.alloc (.cells #[v] t)) w.heap.size t v := heap_alloc_new w _
theorem One.set (h : One w g t v) (u : Value) : One (w.setCell ⟨g, 0, none⟩ u) g t u := heap_setCell_same w g 0 #[v] t u h
theorem One.keep (h : One w g t v) (hk : w'.heap[g]? = w.heap[g]?) : One w' g t v := hk.trans h
theorem One.below {B : Nat} (h : One w g t v) (hb : Below B w w') (hg : g < B) : One w' g t v := h.keep (hb.block g hg)
theorem One.newer (h : One w g t v) (hb : Below w.heap.size w w') : One w' g t v := h.keep (hb.block g h.lt)
theorem One.out {lo hi : Nat} (h : One w g t v) (o : Out lo hi w w') (hd : g < lo ∨ hi ≤ g) : One w' g t v := h.keep (o.block g h.lt hd)
theorem One.far (h : One w g t v) {p : Addr} (hp : g ≠ p.block) (u : Value) : One (w.setCell p u) g t v := h.keep (Below.heap_setCell w p u g hp)
theorem Out.setCell {g lo hi : Nat} (w : World) (h1 : lo ≤ g) (h2 : g < hi) (k : Nat) (u : Value) : Out lo hi w (w.setCell ⟨g, k, none⟩ u) :=
  ⟨rfl, rfl, rfl, by simp, fun b _ hb => Below.heap_setCell w ⟨g, k, none⟩ u b (by simp; omega)⟩
end
end Go.Proofs.Ythkigilegnjglaa

/- Contracts of the code's rows of attacks (attackRows, claimBits). Conditions: claims below 10, rows below 2^16. -/
namespace Go.Proofs.Ythkigilegnjglaa
open Go.ChangeShapes Go.WideShapes Go.ChangeAt Go.RowKit
/-- The cells of a value of type attackRows. -/
def arC (n : Int) (f : Nat → Nat) : Array Value := #[.int .i64 n, .int .u16 (f 0 : Nat), .int .u16 (f 1 : Nat), .int .u16 (f 2 : Nat), .int .u16 (f 3 : Nat), .int .u16 (f 4 : Nat), .int .u16 (f 5 : Nat), .int .u16 (f 6 : Nat), .int .u16 (f 7 : Nat), .int .u16 (f 8 : Nat), .int .u16 (f 9 : Nat)]
def upd (f : Nat → Nat) (a b : Nat) : Nat → Nat := fun k => if k = a then f k ||| 2 ^ b else f k
theorem lt10 {a : Nat} (h : a < 10) : a = 0 ∨ a = 1 ∨ a = 2 ∨ a = 3 ∨ a = 4 ∨ a = 5 ∨ a = 6 ∨ a = 7 ∨ a = 8 ∨ a = 9 := by omega
theorem arC_at (n : Int) (f : Nat → Nat) {a : Nat} (ha : a < 10) : (arC n f)[1 + a]? = some (.int .u16 (f a : Nat)) := by
  rcases lt10 ha with rfl | rfl | rfl | rfl | rfl | rfl | rfl | rfl | rfl | rfl <;> rfl
theorem arC_upd (n : Int) (f : Nat → Nat) {a : Nat} (ha : a < 10) (b : Nat) : (arC n f).setIfInBounds (1 + a) (.int .u16 ((f a ||| 2 ^ b : Nat) : Int)) = arC n (upd f a b) := by
  rcases lt10 ha with rfl | rfl | rfl | rfl | rfl | rfl | rfl | rfl | rfl | rfl <;> simp [arC, upd]
theorem arC_zero : #[Value.int .i64 0, .int .u16 0, .int .u16 0, .int .u16 0, .int .u16 0, .int .u16 0, .int .u16 0, .int .u16 0, .int .u16 0, .int .u16 0, .int .u16 0] = arC 0 fun _ => 0 := rfl
theorem arC_one (n : Int) (f : Nat → Nat) : ∀ v ∈ (arC n f).toList, v.oneCell' = true := by simp [arC, Value.oneCell']
section
variable {P : Program} {w w' : World} {g : Nat} {t : TypeId} {cs cs' : Array Value}
theorem Bx.at_ (h : Bx w g t cs) {k : Nat} {v : Value} (hk : cs[k]? = some v) : w.cell? ⟨g, k, none⟩ = some v := by
  rw [cell_of_row w g k cs t (0, 0) h]; exact hk
theorem Bx.free (h : Bx w g t cs) (k : Nat) : w.frozen? ⟨g, k, none⟩ = false := frozen_of_row w g k cs t h
theorem Bx.set (h : Bx w g t cs) (k : Nat) (u : Value) : Bx (w.setCell ⟨g, k, none⟩ u) g t (cs.setIfInBounds k u) := heap_setCell_same w g k cs t u h
theorem Bx.drew_ (h : Bx w g t cs) : Bx w.drew g t cs := h
theorem Bx.far (h : Bx w g t cs) {p : Addr} (hp : g ≠ p.block) (u : Value) : Bx (w.setCell p u) g t cs := (Below.heap_setCell w p u g hp).trans h
/-- The whole block is loaded. -/
theorem Bx.load (h : Bx w g t cs) {n : Nat} (hn : cs.size = n) : (loadCellsFrom ⟨g, 0, none⟩ 0 n #[]).run P w = .ok cs w := by
  subst hn
  have := run_loadCells_list (P := P) w ⟨g, 0, none⟩ cs.toList (fun j v hv => by
    have hadd : (⟨g, 0, none⟩ : Addr).add j = ⟨g, j, none⟩ := by unfold Addr.add; split <;> simp_all
    rw [hadd, cell_of_row _ _ j cs t (0, 0) h]
    simpa using hv)
  simpa [loadCells] using this
theorem setRow_out (w : World) (g : Nat) (cs : Array Value) {lo hi : Nat} (h1 : lo ≤ g) (h2 : g < hi) : Out lo hi w (w.setRow g cs) :=
  ⟨rfl, rfl, rfl, by simp [World.setRow], fun k _ hk => by
    have : g ≠ k := by omega
    simp [World.setRow, Array.getElem?_modify, this]⟩
theorem Bx.setRow (h : Bx w g t cs) (cs' : Array Value) : Bx (w.setRow g cs') g t cs' := by
  have hlt := h.lt
  have h' : w.heap[g] = .cells cs t (0, 0) := by simpa [Bx, Array.getElem?_eq_getElem hlt] using h
  show (w.heap.modify g _)[g]? = _
  rw [Array.getElem?_eq_getElem (by simpa using hlt), Array.getElem_modify_self, h']
/-- The whole block is stored. -/
theorem Bx.store (h : Bx w g t cs) (hs : cs'.size = cs.size) (h1 : ∀ v ∈ cs'.toList, v.oneCell' = true) : (storeCells ⟨g, 0, none⟩ cs'.toList 0).run P w = .ok () (w.setRow g cs') := by
  have := run_storeCells_from (P := P) g t cs'.toList 0 cs w h (by simpa using hs) h1
  simpa using this
end
section
variable {w : World} {ops : Array Oper} {rest : List Oper} {o : Oper} {a : Act} {Q : Exit → Act → World → Prop} {cs : Array Value}
end
theorem or_bit {x b : Nat} (hx : x < 65536) (hb : b < 10) : bits .or .u16 (x : Int) (IntKind.u16.wrap (2 ^ b)) = ((x ||| 2 ^ b : Nat) : Int) := by
  have e : IntKind.u16.wrap (2 ^ b) = ((2 ^ b : Nat) : Int) := by
    rcases lt10 hb with rfl | rfl | rfl | rfl | rfl | rfl | rfl | rfl | rfl | rfl <;> rfl
  rw [e, u16_or_nat _ _ hx (Nat.lt_of_lt_of_le (Nat.pow_lt_pow_right (by omega) hb) (by decide))]
theorem has_bit (x k : Nat) (hx : x < 65536) : (bits .and .u16 ((x : Int) / 2 ^ k) 1 == 1) = x.testBit k := by
  have e : ((x : Int) / 2 ^ k) = ((x / 2 ^ k : Nat) : Int) := by push_cast; rfl
  have hl : x / 2 ^ k < 65536 := Nat.lt_of_le_of_lt (Nat.div_le_self _ _) hx
  rw [e, show (1 : Int) = ((1 : Nat) : Int) from rfl, u16_and_nat _ _ hl (by omega), Nat.and_one_is_mod, Nat.testBit_eq_decide_div_mod_eq]
  by_cases h : x / 2 ^ k % 2 = 1
  · rw [h]; simp
  · simp [h]
    omega
end Go.Proofs.Ythkigilegnjglaa

/- Contracts of NextAfter, the model's and the code's (chapter 15), and of the models of CountOf and IsFairOrder. Condition: the slices have at most 2^40 elements. -/
namespace Go.Proofs.Ythkigilegnjglaa
open Go.ChangeShapes Go.WideShapes Go.ChangeAt Go.RowKit
set_option maxRecDepth 100000
theorem l4h_any {w : World} {A : Option Addr} {n c : Nat} {a : Int} {S : List Int} (hl : Hid (S.length = n)) (hn : n ≤ 1099511627776) (hr : Rd w w.heap.size A (ivs S)) :
    Calls Try.prog 97 #[.slice A n c, .int .i64 a] w (fun e w' => e = .returned (.bool (S.contains a)) ∧ w = w') := by
  go_enter Try.func97, Try.ntmps97
  go_wp2_with fail
  go_loopw [5] (fun i wr => ∃ k : Nat, k ≤ n ∧ i = .int .i64 k ∧ wr = w ∧ Hid ((S.take k).contains a = false)) (fun i _ => n - (intOf i).toNat)
  case atStart => exact ⟨0, Nat.zero_le _, rfl, rfl, Lib.hid rfl⟩
  case round =>
    obtain ⟨k, hk, rfl, rfl, hno⟩ := hrel
    by_cases hlt : k < n
    · have hkz : k < S.length := by rw [hl.out]; exact hlt
      obtain ⟨ad, rfl, hab, hc⟩ := ivs_at hr hkz
      have i0 : (0 : Int) ≤ (k : Int) := by omega
      by_cases h1 : S[k] = a
      · have HY := Lib.hid (show S.contains a = true by rw [List.contains_iff_mem]; exact h1 ▸ List.getElem_mem hkz)
        rw [h1] at hc
        clear h1
        go_wp2_with fail
        go_ret
        exact ⟨ret_b HY.out.symm, rfl⟩
      · have HN := Lib.hid (show (S.take (k + 1)).contains a = false by
          rw [List.take_succ_eq_append_getElem hkz]
          have := hno.out
          simp only [List.contains_eq_mem, decide_eq_false_iff_not, List.mem_append, List.mem_singleton, not_or] at this ⊢
          exact ⟨this, fun e => h1 e.symm⟩)
        obtain ⟨z, hz⟩ : ∃ z, z = S[k] := ⟨_, rfl⟩
        rw [← hz] at hc h1
        have h1' : (z == a) = false := by simpa using h1
        clear hz
        go_wp2_with fail
        go_roundw
        case rel => exact ⟨k + 1, by omega, by go_num, trivial, HN⟩
        case measure => simp [intOf]; omega
    · have e : k = n := by omega
      subst e
      have HF := Lib.hid (show S.contains a = false by have := hno.out; rwa [List.take_of_length_le (by rw [hl.out]; exact Nat.le_refl _)] at this)
      go_wp2_with fail
      go_ret
      exact ⟨ret_b HF.out.symm, rfl⟩
/-- Where a stands first: no element before k is a. -/
def NoB (o : List Int) (a : Int) (k : Nat) : Prop := ∀ j, j < k → o.getD j 0 ≠ a
theorem NoB.succ {o : List Int} {a : Int} {k : Nat} (h : NoB o a k) (h2 : o.getD k 0 ≠ a) : NoB o a (k + 1) := fun j hj => by
  by_cases e : j = k
  · rw [e]; exact h2
  · exact h j (by omega)
theorem getD_z {o : List Int} {k : Nat} (h : k < o.length) : o.getD k 0 = o[k] := by simp [List.getD, h]
theorem nex_none {o : List Int} {a : Int} {k : Nat} (h : NoB o a k) (hk : o.length ≤ k + 1) : nexN o a = 0 := by
  have : nexI o a = none := by
    unfold nexI
    rw [List.find?_eq_none]
    intro j hj
    have := h j (by have := List.mem_range.1 hj; omega)
    simpa using this
  unfold nexN
  rw [this]
theorem nex_some {o : List Int} {a : Int} {k j : Nat} (h : NoB o a k) (hj : j = k + 1) (hk : j < o.length) (he : o.getD k 0 = a) : nexN o a = o[j] := by
  subst hj
  have : nexI o a = some k := by
    unfold nexI
    rw [List.find?_range_eq_some]
    exact ⟨by simpa using he, List.mem_range.2 (by omega), fun j hj => by simpa using h j hj⟩
  unfold nexN
  rw [this]
  exact getD_z hk
theorem idx_any {w : World} {B : Nat} {A : Option Addr} {n c : Nat} {a : Int} {S : List Int} (hl : Hid (S.length = n)) (hn : n ≤ 1099511627776) (hr : Rd w B A (ivs S)) :
    Calls Try.prog 66 #[.slice A n c, .int .i64 a] w (fun e w' => (∃ r : Int, e = .returned (.int .i64 r) ∧ (r = -1 ∧ NoB S a n ∨ ∃ k : Nat, r = (k : Int) ∧ k < n ∧ NoB S a k ∧ S.getD k 0 = a)) ∧ w = w') := by
  go_enter Try.func66, Try.ntmps66
  go_wp2_with fail
  go_loopw [8] (fun i wr => ∃ k : Nat, k ≤ n ∧ i = .int .i64 k ∧ wr = w ∧ Hid (NoB S a k)) (fun i _ => n - (intOf i).toNat)
  case atStart => exact ⟨0, Nat.zero_le _, rfl, rfl, Lib.hid (fun j hj => absurd hj (by omega))⟩
  case round =>
    obtain ⟨k, hk, rfl, rfl, hno⟩ := hrel
    by_cases hlt : k < n
    · have hkz : k < S.length := by rw [hl.out]; exact hlt
      obtain ⟨ad, rfl, hab, hc⟩ := ivs_at hr hkz
      have HG := Lib.hid (getD_z hkz)
      have i0 : (0 : Int) ≤ (k : Int) := by omega
      obtain ⟨z, hz⟩ : ∃ z, z = S[k] := ⟨_, rfl⟩
      rw [← hz] at hc HG
      clear hz
      by_cases h1 : z = a
      · have HV := Lib.hid (HG.out.trans h1)
        subst h1
        go_wp2_with fail
        go_ret
        exact ⟨⟨k, rfl, .inr ⟨k, rfl, hlt, hno.out, HV.out⟩⟩, rfl⟩
      · have HN := Lib.hid (hno.out.succ (by rw [HG.out]; exact h1))
        have h1' : (a == z) = false := by simpa using (show ¬ a = z from fun e => h1 e.symm)
        go_wp2_with fail
        go_roundw
        case rel => exact ⟨k + 1, by omega, by go_num, trivial, HN⟩
        case measure => simp [intOf]; omega
    · have e : k = n := by omega
      subst e
      go_wp2_with fail
      go_ret
      exact ⟨⟨-1, rfl, .inl ⟨rfl, hno.out⟩⟩, rfl⟩
end Go.Proofs.Ythkigilegnjglaa
