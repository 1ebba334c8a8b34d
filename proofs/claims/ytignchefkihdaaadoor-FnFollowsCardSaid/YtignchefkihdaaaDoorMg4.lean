/- Contracts of the laws' own helpers over []int: toIntS copies, eqIntS compares, markIntS writes k, k+1, .. into each place, heldIntS asks for them. For every slice of at most 2^44 - 512 elements; no other condition. -/
import Derived.Test.YtignchefkihdaaaDoorRows
import Derived.WalkKit
import Derived.ProofKit
import Derived.OpenShut
import Derived.LoopN
import Derived.Handy
import Derived.LoopTactic
import Derived.Lib.Hide
import Derived.IntWalk
import Derived.BigQuiet
import Derived.Deep.QuietTactic
import Derived.Outline
import Derived.Test.YtignchefkihdaaaDoorMg1
import Derived.Test.YtignchefkihdaaaDoorMg3
import Derived.Deep.Grids
namespace Go.Proofs.YtignchefkihdaaaDoor
open Go.ChangeShapes Go.WideShapes Go.ChangeAt Go.RowKit
theorem IntS_info : (Tryd.prog.info? 3).map (fun i => (i.zero, i.size, i.bytes)) = some (some (.int .i64 0), 1, 8) := by kernel_rfl
def ivs (zs : List Int) : List Value := zs.map (Value.int .i64)
theorem ivs_len (zs : List Int) : (ivs zs).length = zs.length := by simp [ivs]
theorem ivs_get (zs : List Int) (k : Nat) (h : k < zs.length) : (ivs zs)[k]? = some (.int .i64 zs[k]) := by simp [ivs, h]
theorem ivs_at {w : World} {B : Nat} {A : Option Addr} {zs : List Int} (h : Rd w B A (ivs zs)) {k : Nat} (hk : k < zs.length) :
    ∃ ad, A = some ad ∧ ad.block < B ∧ w.cell? (ad.add k) = some (.int .i64 zs[k]) := h k _ (ivs_get zs k hk)
/-- What markIntS writes: q, q + 1, .. -/
def imks (q : Int) (n : Nat) : List Int := (List.range n).map fun (j : Nat) => (q + (j : Int))
theorem imks_len (q : Int) (n : Nat) : (imks q n).length = n := by simp [imks]
theorem imks_get (q : Int) (n k : Nat) (h : k < n) : (imks q n)[k]'(by rw [imks_len]; exact h) = (q + k) := by simp [imks]
theorem jmks_get (q : Int) (n k : Nat) (h : k < n) : (ivs (imks q n))[k]? = some (.int .i64 ((q + k))) := by
  rw [ivs_get _ _ (by rw [imks_len]; exact h), imks_get q n k h]
end Go.Proofs.YtignchefkihdaaaDoor

/- Contracts of chapter 3's draws: keys and values lie in -1 to 2^31, rows are short. Condition: the cursor lies in a block of its own (Cur). -/
namespace Go.Proofs.YtignchefkihdaaaDoor
open Go.ChangeShapes Go.WideShapes Go.ChangeAt Go.RowKit
def InW (x : Int) : Prop := -1 ≤ x ∧ x ≤ 2147483648
theorem mulW {a b : Int} (a0 : 0 ≤ a) (a1 : a < 1000000) (b0 : 0 ≤ b) (b1 : b < 2000) : 0 ≤ a * b ∧ a * b ≤ 2000000000 := by
  have h1 := Int.mul_nonneg a0 b0
  have h2 : a * b ≤ 1000000 * b := Int.mul_le_mul_of_nonneg_right (by omega) b0
  omega
/-- At most m integers, each InW, were drawn into a new row. -/
def DrewWs (m : Nat) (B : Nat) (A : Option Addr) (n c : Nat) (w : World) (e : Ending) (w' : World) : Prop :=
  ∃ (ys : List Int) (v : Value), ys.length ≤ m ∧ (∀ x ∈ ys, InW x) ∧ e = .returned v ∧ Row w' w.heap.size w'.heap.size 3 v (ivs ys) ∧ w.grownBy w' (some B) ∧ Cur w' B A n c
theorem inW_snoc {ys : List Int} {x : Int} (h : ∀ y ∈ ys, InW y) (hx : InW x) : ∀ y ∈ ys ++ [x], InW y := by
  intro y hy
  rw [List.mem_append, List.mem_singleton] at hy
  rcases hy with hy | rfl
  · exact h y hy
  · exact hx
theorem ivs_snoc_w (zs : List Int) (x : Int) : ivs zs ++ [Value.int .i64 x] = ivs (zs ++ [x]) := by simp [ivs]
/-- An integer InW and a row of bytes were drawn; nothing old has turned. -/
def DrewWB (m : Nat) (w : World) (e : Ending) (w' : World) : Prop :=
  ∃ (x : Int) (ys : List Int) (v : Value), InW x ∧ ys.length ≤ m ∧ (∀ x ∈ ys, 0 ≤ x ∧ x ≤ 255) ∧ e = .returned (.tuple #[.int .i64 x, v]) ∧ Row w' w.heap.size w'.heap.size 5 v (bvs ys) ∧ Below w.heap.size w w'
/-- An integer and a row of integers were drawn, each InW; nothing old has turned. -/
def DrewWW (m : Nat) (w : World) (e : Ending) (w' : World) : Prop :=
  ∃ (x : Int) (ys : List Int) (v : Value), InW x ∧ ys.length ≤ m ∧ (∀ x ∈ ys, InW x) ∧ e = .returned (.tuple #[.int .i64 x, v]) ∧ Row w' w.heap.size w'.heap.size 3 v (ivs ys) ∧ Below w.heap.size w w'
/-- A string of at most 100 bytes was drawn. -/
def DrewStr (B : Nat) (A : Option Addr) (n c : Nat) (w : World) (e : Ending) (w' : World) : Prop :=
  ∃ s : ByteArray, s.size ≤ 100 ∧ e = .returned (.string s) ∧ w.grownBy w' (some B) ∧ Cur w' B A n c
def StrRow (w : World) (G k : Nat) : Prop := G < w.heap.size ∧ ∀ j, j < k → ∃ s : ByteArray, s.size ≤ 100 ∧ w.cell? ⟨G, j, none⟩ = some (.string s)
theorem strrow_alloc (w : World) (zs : List ByteArray) (t : TypeId) (h : ∀ z ∈ zs, z.size ≤ 100) : StrRow (w.alloc (.cells (zs.map Value.string).toArray t)) w.heap.size zs.length := by
  refine ⟨by simp, fun j hj => ⟨zs[j], h _ (List.getElem_mem _), ?_⟩⟩
  rw [cell_of_row _ _ j _ t (0, 0) (heap_alloc_new w _)]
  simp [hj]
/-- An integer InW and a short string were drawn; nothing old has turned. -/
def DrewWS (w : World) (e : Ending) (w' : World) : Prop :=
  ∃ (x : Int) (s : ByteArray), InW x ∧ s.size ≤ 100 ∧ e = .returned (.tuple #[.int .i64 x, .string s]) ∧ Below w.heap.size w w'
end Go.Proofs.YtignchefkihdaaaDoor

/- Contracts of the laws' own helpers over []bool: toBoolS copies, eqBoolS compares. For every slice of at most 2^44 - 512 elements; no other condition. -/
namespace Go.Proofs.YtignchefkihdaaaDoor
open Go.ChangeShapes Go.WideShapes Go.ChangeAt Go.RowKit
theorem BoolS_info : (Tryd.prog.info? 4).map (fun i => (i.zero, i.size, i.bytes)) = some (some (.bool false), 1, 1) := by kernel_rfl
def bls (zs : List Bool) : List Value := zs.map Value.bool
theorem bls_len (zs : List Bool) : (bls zs).length = zs.length := by simp [bls]
theorem bls_get (zs : List Bool) (k : Nat) (h : k < zs.length) : (bls zs)[k]? = some (.bool zs[k]) := by simp [bls, h]
theorem bls_at {w : World} {B : Nat} {A : Option Addr} {zs : List Bool} (h : Rd w B A (bls zs)) {k : Nat} (hk : k < zs.length) :
    ∃ ad, A = some ad ∧ ad.block < B ∧ w.cell? (ad.add k) = some (.bool zs[k]) := h k _ (bls_get zs k hk)
/-- What an argument that is a slice of truth values gives. -/
theorem slice_openB {H : Type} {enc : TypeId × Value → H} {P : Program} {W : World} {t e : TypeId} {v : Value} {d : DataW H} {p : List MemPlace} {base : Nat} (ht : P.underlying t = some (.slice e)) (he : P.underlying e = some .bool) (hc : P.cellsOf e = 1)
    (hv : Value.okWide P W .any base t v) (h : DataW.Trod enc P W 0 (fun _ => true) true t v d p) :
    ∃ (A : Option Addr) (c : Nat) (zs : List Bool), v = .slice A zs.length c ∧ Rd W W.heap.size A (bls zs) ∧ zs.length ≤ c ∧ c ≤ maxLen := by
  obtain ⟨A, n, c, rfl⟩ := okWide_slice ht hv
  obtain ⟨fuel, hf⟩ := h
  rcases Go.Deep.open_bools ht he hc hf with ⟨e1, _⟩ | ⟨a, len, cap, Z, e1, _, h1, h2, _, hcell⟩
  · simp [Value.cells] at e1
    obtain ⟨rfl, rfl, rfl⟩ := e1
    exact ⟨none, 0, [], rfl, Rd.nil, Nat.le_refl _, Nat.zero_le _⟩
  · simp [Value.cells] at e1
    obtain ⟨rfl, rfl, rfl⟩ := e1
    refine ⟨some a, c, (List.range n).map Z, by simp, fun j u hu => ?_, by simpa using h1, h2⟩
    have hj : j < n := by
      rcases Nat.lt_or_ge j n with h' | h'
      · exact h'
      · rw [List.getElem?_eq_none (by simpa [bls] using h')] at hu; cases hu
    have hu2 : u = .bool (Z j) := by
      simp [bls, hj] at hu
      exact hu.symm
    have hcj := hcell j (by omega)
    refine ⟨a, rfl, ?_, by rw [hu2]; exact hcj⟩
    have := cell_lt hcj
    rwa [add_blk] at this
end Go.Proofs.YtignchefkihdaaaDoor
