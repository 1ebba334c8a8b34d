/- Contracts of the code's rows of attacks (attackRows, claimBits). Conditions: claims below 10, rows below 2^16. -/
import Derived.Test.YteffhbboeacogaaGraph
import Derived.Test.YteffhbboeacogaaInts
import Derived.Test.YteffhbboeacogaaStep
import Derived.Test.YteffhbboeacogaaOne
import Derived.Laws.BitsAllLaws
import Derived.Laws.Tables
import Derived.IntWalk
namespace Go.Proofs.Yteffhbboeacogaa
open Go.ChangeShapes Go.WideShapes Go.ChangeAt Go.RowKit
/-- The cells of a value of type attackRows. -/
def arC (n : Int) (f : Nat → Nat) : Array Value := #[.int .i64 n, .int .u16 (f 0 : Nat), .int .u16 (f 1 : Nat), .int .u16 (f 2 : Nat), .int .u16 (f 3 : Nat), .int .u16 (f 4 : Nat), .int .u16 (f 5 : Nat), .int .u16 (f 6 : Nat), .int .u16 (f 7 : Nat), .int .u16 (f 8 : Nat), .int .u16 (f 9 : Nat)]
def upd (f : Nat → Nat) (a b : Nat) : Nat → Nat := fun k => if k = a then f k ||| 2 ^ b else f k
theorem lt10 {a : Nat} (h : a < 10) : a = 0 ∨ a = 1 ∨ a = 2 ∨ a = 3 ∨ a = 4 ∨ a = 5 ∨ a = 6 ∨ a = 7 ∨ a = 8 ∨ a = 9 := by omega
theorem arC_at (n : Int) (f : Nat → Nat) {a : Nat} (ha : a < 10) : (arC n f)[1 + a]? = some (.int .u16 (f a : Nat)) := by
  rcases lt10 ha with rfl | rfl | rfl | rfl | rfl | rfl | rfl | rfl | rfl | rfl <;> rfl
theorem arC_upd (n : Int) (f : Nat → Nat) {a : Nat} (ha : a < 10) (b : Nat) : (arC n f).setIfInBounds (1 + a) (.int .u16 ((f a ||| 2 ^ b : Nat) : Int)) = arC n (upd f a b) := by
  rcases lt10 ha with rfl | rfl | rfl | rfl | rfl | rfl | rfl | rfl | rfl | rfl <;> simp [arC, upd]
theorem arC_zero : #[Value.int .i64 0, .int .u16 0, .int .u16 0, .int .u16 0, .int .u16 0, .int .u16 0, .int .u16 0, .int .u16 0, .int .u16 0, .int .u16 0, .int .u16 0] = arC 0 fun _ => 0 := rfl
theorem arC_one (n : Int) (f : Nat → Nat) : ∀ v ∈ (arC n f).toList, v.oneCell' = true := by simp [arC, Value.oneCell']
section
variable {P : Program} {w w' : World} {g : Nat} {t : TypeId} {cs cs' : Array Value}
theorem Bx.at_ (h : Bx w g t cs) {k : Nat} {v : Value} (hk : cs[k]? = some v) : w.cell? ⟨g, k, none⟩ = some v := by
  rw [cell_of_row w g k cs t (0, 0) h]; exact hk
theorem Bx.free (h : Bx w g t cs) (k : Nat) : w.frozen? ⟨g, k, none⟩ = false := frozen_of_row w g k cs t h
theorem Bx.set (h : Bx w g t cs) (k : Nat) (u : Value) : Bx (w.setCell ⟨g, k, none⟩ u) g t (cs.setIfInBounds k u) := heap_setCell_same w g k cs t u h
theorem Bx.drew_ (h : Bx w g t cs) : Bx w.drew g t cs := h
theorem Bx.far (h : Bx w g t cs) {p : Addr} (hp : g ≠ p.block) (u : Value) : Bx (w.setCell p u) g t cs := (Below.heap_setCell w p u g hp).trans h
/-- The whole block is loaded. -/
theorem Bx.load (h : Bx w g t cs) {n : Nat} (hn : cs.size = n) : (loadCellsFrom ⟨g, 0, none⟩ 0 n #[]).run P w = .ok cs w := by
  subst hn
  have := run_loadCells_list (P := P) w ⟨g, 0, none⟩ cs.toList (fun j v hv => by
    have hadd : (⟨g, 0, none⟩ : Addr).add j = ⟨g, j, none⟩ := by unfold Addr.add; split <;> simp_all
    rw [hadd, cell_of_row _ _ j cs t (0, 0) h]
    simpa using hv)
  simpa [loadCells] using this
theorem setRow_out (w : World) (g : Nat) (cs : Array Value) {lo hi : Nat} (h1 : lo ≤ g) (h2 : g < hi) : Out lo hi w (w.setRow g cs) :=
  ⟨rfl, rfl, rfl, by simp [World.setRow], fun k _ hk => by
    have : g ≠ k := by omega
    simp [World.setRow, Array.getElem?_modify, this]⟩
theorem Bx.setRow (h : Bx w g t cs) (cs' : Array Value) : Bx (w.setRow g cs') g t cs' := by
  have hlt := h.lt
  have h' : w.heap[g] = .cells cs t (0, 0) := by simpa [Bx, Array.getElem?_eq_getElem hlt] using h
  show (w.heap.modify g _)[g]? = _
  rw [Array.getElem?_eq_getElem (by simpa using hlt), Array.getElem_modify_self, h']
/-- The whole block is stored. -/
theorem Bx.store (h : Bx w g t cs) (hs : cs'.size = cs.size) (h1 : ∀ v ∈ cs'.toList, v.oneCell' = true) : (storeCells ⟨g, 0, none⟩ cs'.toList 0).run P w = .ok () (w.setRow g cs') := by
  have := run_storeCells_from (P := P) g t cs'.toList 0 cs w h (by simpa using hs) h1
  simpa using this
end
section
variable {w : World} {ops : Array Oper} {rest : List Oper} {o : Oper} {a : Act} {Q : Exit → Act → World → Prop} {cs : Array Value}
end
theorem or_bit {x b : Nat} (hx : x < 65536) (hb : b < 10) : bits .or .u16 (x : Int) (IntKind.u16.wrap (2 ^ b)) = ((x ||| 2 ^ b : Nat) : Int) := by
  have e : IntKind.u16.wrap (2 ^ b) = ((2 ^ b : Nat) : Int) := by
    rcases lt10 hb with rfl | rfl | rfl | rfl | rfl | rfl | rfl | rfl | rfl | rfl <;> rfl
  rw [e, u16_or_nat _ _ hx (Nat.lt_of_lt_of_le (Nat.pow_lt_pow_right (by omega) hb) (by decide))]
theorem has_bit (x k : Nat) (hx : x < 65536) : (bits .and .u16 ((x : Int) / 2 ^ k) 1 == 1) = x.testBit k := by
  have e : ((x : Int) / 2 ^ k) = ((x / 2 ^ k : Nat) : Int) := by push_cast; rfl
  have hl : x / 2 ^ k < 65536 := Nat.lt_of_le_of_lt (Nat.div_le_self _ _) hx
  rw [e, show (1 : Int) = ((1 : Nat) : Int) from rfl, u16_and_nat _ _ hl (by omega), Nat.and_one_is_mod, Nat.testBit_eq_decide_div_mod_eq]
  by_cases h : x / 2 ^ k % 2 = 1
  · rw [h]; simp
  · simp [h]
    omega
end Go.Proofs.Yteffhbboeacogaa
