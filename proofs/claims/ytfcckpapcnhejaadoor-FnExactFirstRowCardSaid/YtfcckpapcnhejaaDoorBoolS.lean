/- Contracts of the laws' own helpers over []bool: toBoolS copies, eqBoolS compares. For every slice of at most 2^44 - 512 elements; no other condition. -/
import Derived.Test.YtfcckpapcnhejaaDoorRows
import Derived.WalkKit
import Derived.ProofKit
import Derived.OpenShut
import Derived.LoopN
import Derived.Handy
import Derived.LoopTactic
import Derived.Lib.Hide
import Derived.IntWalk
import Derived.BigQuiet
import Derived.Deep.QuietTactic
import Derived.Outline
import Derived.Test.YtfcckpapcnhejaaDoorIntS
import Derived.Deep.Grids
namespace Go.Proofs.YtfcckpapcnhejaaDoor
open Go.ChangeShapes Go.WideShapes Go.ChangeAt Go.RowKit
theorem BoolS_info : (Tryd.prog.info? 4).map (fun i => (i.zero, i.size, i.bytes)) = some (some (.bool false), 1, 1) := by kernel_rfl
def bls (zs : List Bool) : List Value := zs.map Value.bool
theorem bls_len (zs : List Bool) : (bls zs).length = zs.length := by simp [bls]
theorem bls_get (zs : List Bool) (k : Nat) (h : k < zs.length) : (bls zs)[k]? = some (.bool zs[k]) := by simp [bls, h]
theorem bls_at {w : World} {B : Nat} {A : Option Addr} {zs : List Bool} (h : Rd w B A (bls zs)) {k : Nat} (hk : k < zs.length) :
    ∃ ad, A = some ad ∧ ad.block < B ∧ w.cell? (ad.add k) = some (.bool zs[k]) := h k _ (bls_get zs k hk)
/-- What an argument that is a slice of truth values gives. -/
theorem slice_openB {H : Type} {enc : TypeId × Value → H} {P : Program} {W : World} {t e : TypeId} {v : Value} {d : DataW H} {p : List MemPlace} {base : Nat} (ht : P.underlying t = some (.slice e)) (he : P.underlying e = some .bool) (hc : P.cellsOf e = 1)
    (hv : Value.okWide P W .any base t v) (h : DataW.Trod enc P W 0 (fun _ => true) true t v d p) :
    ∃ (A : Option Addr) (c : Nat) (zs : List Bool), v = .slice A zs.length c ∧ Rd W W.heap.size A (bls zs) ∧ zs.length ≤ c ∧ c ≤ maxLen := by
  obtain ⟨A, n, c, rfl⟩ := okWide_slice ht hv
  obtain ⟨fuel, hf⟩ := h
  rcases Go.Deep.open_bools ht he hc hf with ⟨e1, _⟩ | ⟨a, len, cap, Z, e1, _, h1, h2, _, hcell⟩
  · simp [Value.cells] at e1
    obtain ⟨rfl, rfl, rfl⟩ := e1
    exact ⟨none, 0, [], rfl, Rd.nil, Nat.le_refl _, Nat.zero_le _⟩
  · simp [Value.cells] at e1
    obtain ⟨rfl, rfl, rfl⟩ := e1
    refine ⟨some a, c, (List.range n).map Z, by simp, fun j u hu => ?_, by simpa using h1, h2⟩
    have hj : j < n := by
      rcases Nat.lt_or_ge j n with h' | h'
      · exact h'
      · rw [List.getElem?_eq_none (by simpa [bls] using h')] at hu; cases hu
    have hu2 : u = .bool (Z j) := by
      simp [bls, hj] at hu
      exact hu.symm
    have hcj := hcell j (by omega)
    refine ⟨a, rfl, ?_, by rw [hu2]; exact hcj⟩
    have := cell_lt hcj
    rwa [add_blk] at this
end Go.Proofs.YtfcckpapcnhejaaDoor
