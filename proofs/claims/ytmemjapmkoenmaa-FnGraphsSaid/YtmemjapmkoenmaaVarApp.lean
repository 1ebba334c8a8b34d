/- Contracts of AppendUvarint, of its helpers and of its model: b with the groups of n behind it, in memory of its own. No conditions but that b has at most 2^46 elements. -/
import Derived.Test.YtmemjapmkoenmaaVarint
import Derived.Test.YtmemjapmkoenmaaAppend
namespace Go.Proofs.Ytmemjapmkoenmaa
open Go.ChangeShapes Go.WideShapes Go.ChangeAt Go.RowKit
theorem or128 (m : Int) : bits .or .i64 (m % 128) 128 = m % 128 + 128 := by
  obtain ⟨y, hy⟩ := Int.eq_ofNat_of_zero_le (show 0 ≤ m % 128 by omega)
  rw [hy]
  have h := or_nat y 128 (by omega) (by omega)
  have e : y ||| 128 = 128 + y := by
    have := Nat.shiftLeft_add_eq_or_of_lt (show y < 2 ^ 7 by omega) 1
    rw [Nat.or_comm]
    simpa using this.symm
  rw [show ((128 : Nat) : Int) = 128 from rfl] at h
  rw [h, e]; omega
theorem bvs_snoc (zs : List Int) (x : Int) : bvs zs ++ [Value.int .u8 x] = bvs (zs ++ [x]) := by simp [bvs]
theorem bvs_app (zs ys : List Int) : bvs zs ++ bvs ys = bvs (zs ++ ys) := by simp [bvs]
theorem bvs_one (zs : List Int) : ∀ u ∈ bvs zs, u.oneCell' = true := int_one
theorem uv_split (f : Nat) (m : Int) (h1 : m < pw (f + 1)) (h : 128 ≤ m) : ∃ f', f = f' + 1 ∧ uv f m = (m % 128 + 128) :: uv f' (m / 128) ∧ 0 ≤ m / 128 ∧ m / 128 < pw (f' + 1) := by
  cases f with
  | zero => have : pw (0 + 1) = 128 := by decide
            omega
  | succ f => 
    have := pw_succ (f + 1)
    exact ⟨f, rfl, by simp [uv, show ¬ m < 128 by omega], by omega, by omega⟩
/-- append([]byte{}, b...): the part that both share. -/
theorem bvs_empty : (#[] : Array Value).toList = bvs [] := rfl
set_option maxHeartbeats 1600000 in
theorem copyOfBytes_any {w : World} {A : Option Addr} {n c : Nat} {zs : List Int} (hl : Hid (zs.length = n)) (hn : n ≤ 70368744177664) (hr : Rd w w.heap.size A (bvs zs)) :
    Calls Try.prog 65 #[.slice A n c] w (Fresh 5 (bvs zs) w) := by
  obtain ⟨i0, hi, hz0, hz1, hz2⟩ := info_parts ByteS_info
  have hrow := Row.made (w := w) w.heap.size #[] 0 5 (Nat.le_refl _) rfl (Nat.zero_le _)
  have hb0 : Below w.heap.size w (w.alloc (Obj.cells #[] 5)) := (Below.refl _ _).alloc (Nat.le_refl _) _
  have hr2 := hr.below hb0
  have hlen : (bvs zs).length = n := by rw [bvs_len, hl.out]
  have HL := Lib.hid hlen
  clear hlen
  go_enter Try.func65, Try.ntmps65
  go_wp2_with (first | (at_builtin; refine wpList_app rfl (.tmp 3) (.tmp 4) 22 rfl 5 i0 _ 1 Try.underlying22 hi hz0 hz1 hz2 rfl rfl rfl hrow HL.out hr2 (bvs_one zs) (by simp; unfold maxLen; omega) (by simp; omega) (by simp) ?_; intro v1 w1 hrow1 ho1))
  go_ret
  exact ⟨v1, rfl, hrow1.wide (Nat.le_refl _) (Nat.le_refl _), hb0.trans (ho1.below (Nat.le_refl _) (by simp))⟩
/-- A row that lies from block lo on is returned; below lo nothing has turned. -/
def Grew (lo : Nat) (t : TypeId) (xs : List Value) (w : World) (e : Ending) (w' : World) : Prop :=
  ∃ v, e = .returned v ∧ Row w' lo w'.heap.size t v xs ∧ Below lo w w'
theorem app_len {zs done : List Int} {k : Nat} (h : zs.length ≤ 70368744177664) (hd : done.length ≤ k) (hk : k ≤ 100) : (bvs (zs ++ done)).length + 1 ≤ maxLen ∧ ((bvs (zs ++ done)).length + 1) * 1 ≤ 140737488355328 := by
  rw [bvs_len, List.length_append]; unfold maxLen; omega
end Go.Proofs.Ytmemjapmkoenmaa
