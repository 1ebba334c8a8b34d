/- Contracts of chapter 3's draws: keys and values lie in -1 to 2^31, rows are short. Condition: the cursor lies in a block of its own (Cur). -/
import Derived.Test.YtdpaoaoipnoiiaaMg3
import Derived.Test.YtdpaoaoipnoiiaaIntS
namespace Go.Proofs.Ytdpaoaoipnoiiaa
open Go.ChangeShapes Go.WideShapes Go.ChangeAt Go.RowKit
def InW (x : Int) : Prop := -1 ≤ x ∧ x ≤ 2147483648
theorem mulW {a b : Int} (a0 : 0 ≤ a) (a1 : a < 1000000) (b0 : 0 ≤ b) (b1 : b < 2000) : 0 ≤ a * b ∧ a * b ≤ 2000000000 := by
  have h1 := Int.mul_nonneg a0 b0
  have h2 : a * b ≤ 1000000 * b := Int.mul_le_mul_of_nonneg_right (by omega) b0
  omega
/-- At most m integers, each InW, were drawn into a new row. -/
def DrewWs (m : Nat) (B : Nat) (A : Option Addr) (n c : Nat) (w : World) (e : Ending) (w' : World) : Prop :=
  ∃ (ys : List Int) (v : Value), ys.length ≤ m ∧ (∀ x ∈ ys, InW x) ∧ e = .returned v ∧ Row w' w.heap.size w'.heap.size 3 v (ivs ys) ∧ w.grownBy w' (some B) ∧ Cur w' B A n c
theorem inW_snoc {ys : List Int} {x : Int} (h : ∀ y ∈ ys, InW y) (hx : InW x) : ∀ y ∈ ys ++ [x], InW y := by
  intro y hy
  rw [List.mem_append, List.mem_singleton] at hy
  rcases hy with hy | rfl
  · exact h y hy
  · exact hx
theorem ivs_snoc_w (zs : List Int) (x : Int) : ivs zs ++ [Value.int .i64 x] = ivs (zs ++ [x]) := by simp [ivs]
/-- An integer InW and a row of bytes were drawn; nothing old has turned. -/
def DrewWB (m : Nat) (w : World) (e : Ending) (w' : World) : Prop :=
  ∃ (x : Int) (ys : List Int) (v : Value), InW x ∧ ys.length ≤ m ∧ (∀ x ∈ ys, 0 ≤ x ∧ x ≤ 255) ∧ e = .returned (.tuple #[.int .i64 x, v]) ∧ Row w' w.heap.size w'.heap.size 5 v (bvs ys) ∧ Below w.heap.size w w'
/-- An integer and a row of integers were drawn, each InW; nothing old has turned. -/
def DrewWW (m : Nat) (w : World) (e : Ending) (w' : World) : Prop :=
  ∃ (x : Int) (ys : List Int) (v : Value), InW x ∧ ys.length ≤ m ∧ (∀ x ∈ ys, InW x) ∧ e = .returned (.tuple #[.int .i64 x, v]) ∧ Row w' w.heap.size w'.heap.size 3 v (ivs ys) ∧ Below w.heap.size w w'
/-- A string of at most 100 bytes was drawn. -/
def DrewStr (B : Nat) (A : Option Addr) (n c : Nat) (w : World) (e : Ending) (w' : World) : Prop :=
  ∃ s : ByteArray, s.size ≤ 100 ∧ e = .returned (.string s) ∧ w.grownBy w' (some B) ∧ Cur w' B A n c
def StrRow (w : World) (G k : Nat) : Prop := G < w.heap.size ∧ ∀ j, j < k → ∃ s : ByteArray, s.size ≤ 100 ∧ w.cell? ⟨G, j, none⟩ = some (.string s)
theorem strrow_alloc (w : World) (zs : List ByteArray) (t : TypeId) (h : ∀ z ∈ zs, z.size ≤ 100) : StrRow (w.alloc (.cells (zs.map Value.string).toArray t)) w.heap.size zs.length := by
  refine ⟨by simp, fun j hj => ⟨zs[j], h _ (List.getElem_mem _), ?_⟩⟩
  rw [cell_of_row _ _ j _ t (0, 0) (heap_alloc_new w _)]
  simp [hj]
/-- An integer InW and a short string were drawn; nothing old has turned. -/
def DrewWS (w : World) (e : Ending) (w' : World) : Prop :=
  ∃ (x : Int) (s : ByteArray), InW x ∧ s.size ≤ 100 ∧ e = .returned (.tuple #[.int .i64 x, .string s]) ∧ Below w.heap.size w w'
end Go.Proofs.Ytdpaoaoipnoiiaa
