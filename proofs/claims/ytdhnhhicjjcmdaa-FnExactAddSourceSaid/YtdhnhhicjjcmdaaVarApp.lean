/- Contracts of AppendUvarint, of its helpers and of its model: b with the groups of n behind it, in memory of its own. No conditions but that b has at most 2^46 elements. -/
import Derived.Test.YtdhnhhicjjcmdaaVarint
import Derived.Test.YtdhnhhicjjcmdaaAppend
namespace Go.Proofs.Ytdhnhhicjjcmdaa
open Go.ChangeShapes Go.WideShapes Go.ChangeAt Go.RowKit
theorem or128 (m : Int) : bits .or .i64 (m % 128) 128 = m % 128 + 128 := by
  obtain ⟨y, hy⟩ := Int.eq_ofNat_of_zero_le (show 0 ≤ m % 128 by omega)
  rw [hy]
  have h := or_nat y 128 (by omega) (by omega)
  have e : y ||| 128 = 128 + y := by
    have := Nat.shiftLeft_add_eq_or_of_lt (show y < 2 ^ 7 by omega) 1
    rw [Nat.or_comm]
    simpa using this.symm
  rw [show ((128 : Nat) : Int) = 128 from rfl] at h
  rw [h, e]; omega
theorem bvs_snoc (zs : List Int) (x : Int) : bvs zs ++ [Value.int .u8 x] = bvs (zs ++ [x]) := by simp [bvs]
theorem bvs_app (zs ys : List Int) : bvs zs ++ bvs ys = bvs (zs ++ ys) := by simp [bvs]
theorem bvs_one (zs : List Int) : ∀ u ∈ bvs zs, u.oneCell' = true := int_one
theorem uv_split (f : Nat) (m : Int) (h1 : m < pw (f + 1)) (h : 128 ≤ m) : ∃ f', f = f' + 1 ∧ uv f m = (m % 128 + 128) :: uv f' (m / 128) ∧ 0 ≤ m / 128 ∧ m / 128 < pw (f' + 1) := by
  cases f with
  | zero => have : pw (0 + 1) = 128 := by decide
            omega
  | succ f => 
    have := pw_succ (f + 1)
    exact ⟨f, rfl, by simp [uv, show ¬ m < 128 by omega], by omega, by omega⟩
/-- append([]byte{}, b...): the part that both share. -/
theorem bvs_empty : (#[] : Array Value).toList = bvs [] := rfl
/-- A row that lies from block lo on is returned; below lo nothing has turned. -/
def Grew (lo : Nat) (t : TypeId) (xs : List Value) (w : World) (e : Ending) (w' : World) : Prop :=
  ∃ v, e = .returned v ∧ Row w' lo w'.heap.size t v xs ∧ Below lo w w'
theorem app_len {zs done : List Int} {k : Nat} (h : zs.length ≤ 70368744177664) (hd : done.length ≤ k) (hk : k ≤ 100) : (bvs (zs ++ done)).length + 1 ≤ maxLen ∧ ((bvs (zs ++ done)).length + 1) * 1 ≤ 140737488355328 := by
  rw [bvs_len, List.length_append]; unfold maxLen; omega
end Go.Proofs.Ytdhnhhicjjcmdaa
