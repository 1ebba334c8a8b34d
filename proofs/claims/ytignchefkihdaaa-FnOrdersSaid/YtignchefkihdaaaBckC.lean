/- Contracts of slices.Backward at []int and of its closure. Condition: the slice has at most 2^40 elements. -/
import Derived.Test.YtignchefkihdaaaRigMath
import Derived.Test.YtignchefkihdaaaOrdA
import Derived.RangeFuncNested
import Derived.RangeFuncBound
import Derived.RangeFuncCalls
import Derived.RangeFuncLeaves
import Derived.RangeFuncFrom
import Derived.Shelf.Abstract
import Derived.Shelf.RegionOpen
import Derived.OwnWalkIn
import Derived.TacticsInMore
import Derived.LoopNIn
import Derived.LoopIn
namespace Go.Proofs.Ytignchefkihdaaa
open Go.ChangeShapes Go.WideShapes Go.ChangeAt Go.RowKit Go.Shelf
attribute [local go_sem] Oper.semAt_some
set_option maxRecDepth 100000
theorem back_any {w : World} {A : Option Addr} {n c : Nat} : Calls Try.prog 116 #[.slice A n c] w (fun e w' => e = .returned (.func (.func 147) #[] #[.pointer (some ⟨w.heap.size, 0, none⟩)]) ∧ w' = w.alloc (Obj.cells #[.slice A n c] 25)) := by
  go_enter Try.func116, Try.ntmps116
  go_wp2_with fail
  go_ret
  exact ⟨rfl, rfl⟩
/-- The places that have come when m are left. -/
def dnL (N m : Nat) : List Nat := ((List.range N).drop m).reverse
theorem dnL_all (N : Nat) : dnL N N = [] := by unfold dnL; rw [List.drop_of_length_le (by simp)]; rfl
theorem dnL_snoc {N j : Nat} (h : j < N) : dnL N j = dnL N (j + 1) ++ [j] := by
  unfold dnL
  rw [List.drop_eq_getElem_cons (by simpa using h), List.reverse_cons, List.getElem_range]
theorem dnL_len (N m : Nat) : (dnL N m).length = N - m := by unfold dnL; simp
theorem dnL_mem {N m j : Nat} : j ∈ dnL N m ↔ m ≤ j ∧ j < N := by
  unfold dnL
  rw [List.mem_reverse, List.mem_drop_iff_getElem]
  constructor
  · rintro ⟨k, hk, rfl⟩
    simp at hk
    simp
    omega
  · rintro ⟨h1, h2⟩
    exact ⟨j - m, by simp; omega, by simp; omega⟩
/-- What a round hands over. -/
abbrev encB (S : List Int) (j : Nat) : Array Value := #[.int .i64 (j : Int), .int .i64 (S.getD j 0)]
set_option maxHeartbeats 4000000 in
theorem back1_in (n : Nat) (hn : 1 ≤ n) (l Bn n₀ : Nat) {A : Option Addr} {N cc : Nat} {S : List Int} (hl : Hid (S.length = N)) (hN : N ≤ 1099511627776) (J Jx : List Nat → World → Prop) (W : World) (hBn : W.cell? ⟨Bn, 0, none⟩ = some (.slice A N cc)) (hBl : Bn < n₀) (hr : Rd W n₀ A (ivs S))
    (hY : ∀ pre x W1, J pre W1 → pre.length < N → YieldAt Fence.wide (n - 1) Try.prog l (encB S x) W1 fun e W' =>
      (e = .returned (.bool true) ∧ J (pre ++ [x]) W' ∧ Below n₀ W1 W') ∨ (e = .returned (.bool false) ∧ Jx (pre ++ [x]) W')) (h0 : J [] W) :
    CallsIn Fence.wide n Try.prog 147 #[.func (.yield l) #[] #[], .pointer (some ⟨Bn, 0, none⟩)] W fun e W' => (∃ v, e = .returned v) ∧
      ((∃ ys, ys = dnL N 0 ∧ J ys W') ∨ (∃ pre, (∃ j, j < N ∧ pre = dnL N j) ∧ Jx pre W')) := by
  refine callsIn_of_wp Try.func147 rfl trivial ?_ rfl
  simp only [Try.ntmps147, List.size_toArray, List.length_cons, List.length_nil, Nat.reduceAdd, Nat.reduceSub, Array.replicate_succ, Array.replicate_zero, List.push_toArray, List.append_toArray, List.nil_append, List.cons_append]
  have HR := Lib.hid hr
  have HY := Lib.hid hY
  have ww0 : IntKind.i64.wrap ((N : Int) - 1) = (N : Int) - 1 := IntWalk.i64_in _ (by omega)
  clear hr hY
  gi_wp2
  gi_loopw [3] (fun i wr => ∃ m : Nat, m ≤ N ∧ i = .int .i64 ((m : Int) - 1) ∧ J (dnL N m) wr ∧ Below n₀ W wr) (fun i _ => (intOf i + 1).toNat)
  case atStart => exact ⟨N, Nat.le_refl _, rfl, by rw [dnL_all]; exact h0, Below.refl _ _⟩
  case round =>
    obtain ⟨m, hm, rfl, hJm, hbm⟩ := hrel
    by_cases hm0 : m = 0
    · subst hm0
      have i3 : ¬ (0 : Int) ≤ ((0 : Nat) : Int) - 1 := by omega
      have i4 : ((0 : Nat) : Int) - 1 = -1 := by omega
      clear h0 hBn
      gi_wp2
      go_end0
      exact ⟨⟨_, rfl⟩, .inl (by first | exact hJm | exact ⟨_, rfl, hJm⟩)⟩
    · obtain ⟨j, hj⟩ : ∃ j, m = j + 1 := ⟨m - 1, by omega⟩
      subst hj
      have hjk : (((j + 1 : Nat) : Int) - 1) = (j : Int) := by omega
      rw [hjk]
      have hjS : j < S.length := by rw [hl.out]; omega
      have hrr := HR.out.below hbm
      have hBn1 := (hbm.cell (p := ⟨Bn, 0, none⟩) hBl).trans hBn
      obtain ⟨ad, rfl, hab, hc0⟩ := ivs_at hrr hjS
      rw [show S[j] = S.getD j 0 by simp [List.getD, hjS]] at hc0
      have HYY := HY.out _ j wr hJm (by rw [dnL_len]; omega)
      have HSN := Lib.hid (dnL_snoc (N := N) (j := j) (by omega))
      unfold encB at HYY
      obtain ⟨y, hy⟩ : ∃ y, S.getD j 0 = y := ⟨_, rfl⟩
      rw [hy] at hc0 HYY
      have i0 : (0 : Int) ≤ (j : Int) := by omega
      have i1 : (j : Int) < (N : Int) := by omega
      have ww1 : IntKind.i64.wrap ((j : Int) - 1) = (j : Int) - 1 := IntWalk.i64_in _ (by omega)
      obtain ⟨fn, tmps, assign, body, hyy, hRR⟩ := HYY
      clear hy h0 hBn hJm hrr
      gi_wp2
      refine hRR.mono ?_
      rintro e W3 (⟨rfl, hJ3, hk3⟩ | ⟨rfl, hJx3⟩)
      · gi_wp2
        go_roundw
        case rel => exact ⟨j, by omega, by go_num, by rw [HSN.out]; exact hJ3, hbm.trans hk3⟩
        case measure => simp [intOf]
      · gi_wp2
        refine bodyPost_ret (results_none rfl _ _ _) rfl ?_
        exact ⟨⟨_, rfl⟩, .inr ⟨_, ⟨j, by omega, HSN.out.symm⟩, hJx3⟩⟩
theorem back_stops (n : Nat) (hn : 1 ≤ n) (Bn n₀ : Nat) {A : Option Addr} {N cc : Nat} {S : List Int} (hl : Hid (S.length = N)) (hN : N ≤ 1099511627776) {w : World} (hBn : w.cell? ⟨Bn, 0, none⟩ = some (.slice A N cc)) (hBl : Bn < n₀) (hr : Rd w n₀ A (ivs S)) (hn0 : n₀ ≤ w.heap.size) :
    SeqStopsK Fence.wide n Try.prog 147 #[.pointer (some ⟨Bn, 0, none⟩)] (encB S) (Below n₀) (fun ys => ys = dnL N 0) (fun pre => ∃ j, j < N ∧ pre = dnL N j) N w := fun l J Jx W hW _ _ hY h0 =>
  back1_in n hn l Bn n₀ hl hN J Jx W ((hW.cell (p := ⟨Bn, 0, none⟩) (show Bn < w.heap.size by omega)).trans hBn) hBl (hr.below (hW.mono hn0)) hY h0
end Go.Proofs.Ytignchefkihdaaa
