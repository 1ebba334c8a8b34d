/- Contracts of the laws' own helpers over []int: toIntS copies, eqIntS compares, markIntS writes k, k+1, .. into each place, heldIntS asks for them. For every slice of at most 2^44 - 512 elements; no other condition. -/
import Derived.Test.YtjfmpgplbcpakaaRows
import Derived.WalkKit
import Derived.ProofKit
import Derived.OpenShut
import Derived.LoopN
import Derived.Handy
import Derived.LoopTactic
import Derived.Lib.Hide
import Derived.IntWalk
import Derived.BigQuiet
import Derived.Deep.QuietTactic
import Derived.Outline
import Derived.Test.YtjfmpgplbcpakaaByteS
namespace Go.Proofs.Ytjfmpgplbcpakaa
open Go.ChangeShapes Go.WideShapes Go.ChangeAt Go.RowKit
theorem IntS_info : (Try.prog.info? 3).map (fun i => (i.zero, i.size, i.bytes)) = some (some (.int .i64 0), 1, 8) := by kernel_rfl
def ivs (zs : List Int) : List Value := zs.map (Value.int .i64)
theorem ivs_len (zs : List Int) : (ivs zs).length = zs.length := by simp [ivs]
theorem ivs_get (zs : List Int) (k : Nat) (h : k < zs.length) : (ivs zs)[k]? = some (.int .i64 zs[k]) := by simp [ivs, h]
theorem ivs_at {w : World} {B : Nat} {A : Option Addr} {zs : List Int} (h : Rd w B A (ivs zs)) {k : Nat} (hk : k < zs.length) :
    ∃ ad, A = some ad ∧ ad.block < B ∧ w.cell? (ad.add k) = some (.int .i64 zs[k]) := h k _ (ivs_get zs k hk)
/-- What markIntS writes: q, q + 1, .. -/
def imks (q : Int) (n : Nat) : List Int := (List.range n).map fun (j : Nat) => (q + (j : Int))
theorem imks_len (q : Int) (n : Nat) : (imks q n).length = n := by simp [imks]
theorem imks_get (q : Int) (n k : Nat) (h : k < n) : (imks q n)[k]'(by rw [imks_len]; exact h) = (q + k) := by simp [imks]
theorem jmks_get (q : Int) (n k : Nat) (h : k < n) : (ivs (imks q n))[k]? = some (.int .i64 ((q + k))) := by
  rw [ivs_get _ _ (by rw [imks_len]; exact h), imks_get q n k h]
end Go.Proofs.Ytjfmpgplbcpakaa
