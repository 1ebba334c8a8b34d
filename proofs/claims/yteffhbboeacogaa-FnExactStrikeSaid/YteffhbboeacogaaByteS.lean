/- Contracts of the laws' own helpers over []byte: toByteS copies, eqByteS compares, markByteS writes k, k+1, .. into each place, heldByteS asks for them. For every slice of at most 2^47 - 4096 elements; no other condition. -/
import Derived.Test.YteffhbboeacogaaRows
import Derived.WalkKit
import Derived.ProofKit
import Derived.OpenShut
import Derived.LoopN
import Derived.Handy
import Derived.LoopTactic
import Derived.Lib.Hide
import Derived.IntWalk
import Derived.BigQuiet
import Derived.Deep.QuietTactic
import Derived.Outline
import Derived.Test.YteffhbboeacogaaWords
namespace Go.Proofs.Yteffhbboeacogaa
open Go.ChangeShapes Go.WideShapes Go.ChangeAt Go.RowKit
theorem ByteS_info : (Try.prog.info? 5).map (fun i => (i.zero, i.size, i.bytes)) = some (some (.int .u8 0), 1, 1) := by kernel_rfl
def bvs (zs : List Int) : List Value := zs.map (Value.int .u8)
theorem bvs_len (zs : List Int) : (bvs zs).length = zs.length := by simp [bvs]
theorem bvs_get (zs : List Int) (k : Nat) (h : k < zs.length) : (bvs zs)[k]? = some (.int .u8 zs[k]) := by simp [bvs, h]
theorem bvs_at {w : World} {B : Nat} {A : Option Addr} {zs : List Int} (h : Rd w B A (bvs zs)) {k : Nat} (hk : k < zs.length) :
    ∃ ad, A = some ad ∧ ad.block < B ∧ w.cell? (ad.add k) = some (.int .u8 zs[k]) := h k _ (bvs_get zs k hk)
theorem set_mix (xs ys : List Value) (k : Nat) (u : Value) (hk : k < xs.length) (hl : ys.length = xs.length) (hu : xs[k]? = some u) :
    (xs.take k ++ ys.drop k).set k u = xs.take (k + 1) ++ ys.drop (k + 1) := by
  have h1 : (xs.take k).length = k := by simp; omega
  rw [List.set_append, h1, if_neg (by omega), Nat.sub_self, List.drop_eq_getElem_cons (show k < ys.length by omega)]
  rw [List.getElem?_eq_getElem hk] at hu
  injection hu with hu
  rw [List.set_cons_zero, List.take_succ_eq_append_getElem hk, hu, List.append_assoc]; rfl
/-- A truth value is returned, and nothing that was there has turned. -/
def Tells (b : Bool) (w : World) (e : Ending) (w' : World) : Prop := e = .returned (.bool b) ∧ Below w.heap.size w w'
/-- A truth value is returned, and the world is as it was but for draws. -/
def TellsQ (b : Bool) (w : World) (e : Ending) (w' : World) : Prop := e = .returned (.bool b) ∧ ∃ m, w' = w.drewN m
theorem TellsQ.tells {b : Bool} {w : World} {e : Ending} {w' : World} (h : TellsQ b w e w') : Tells b w e w' := by
  obtain ⟨h1, m, rfl⟩ := h
  exact ⟨h1, below_drewN (Below.refl _ _) m⟩
/-- What markByteS writes: q, q + 1, .. -/
def mks (q : Int) (n : Nat) : List Int := (List.range n).map fun (j : Nat) => (q + (j : Int)) % 256
theorem mks_len (q : Int) (n : Nat) : (mks q n).length = n := by simp [mks]
theorem mks_get (q : Int) (n k : Nat) (h : k < n) : (mks q n)[k]'(by rw [mks_len]; exact h) = (q + k) % 256 := by simp [mks]
theorem bmks_get (q : Int) (n k : Nat) (h : k < n) : (bvs (mks q n))[k]? = some (.int .u8 ((q + k) % 256)) := by
  rw [bvs_get _ _ (by rw [mks_len]; exact h), mks_get q n k h]
/-- An integer is returned, and nothing that was there has turned but what lies between two block numbers. -/
def Marked (x : Int) (lo hi : Nat) (t : TypeId) (v : Value) (xs : List Value) (w : World) (e : Ending) (w' : World) : Prop :=
  e = .returned (.int .i64 x) ∧ Row w' lo hi t v xs ∧ Out lo hi w w'
end Go.Proofs.Yteffhbboeacogaa
