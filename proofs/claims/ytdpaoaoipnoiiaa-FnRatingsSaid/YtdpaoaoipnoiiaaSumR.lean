/- Contracts of SumRatings, the model's and the code's (chapter 25). Condition: the slice has at most 2^40 elements. -/
import Derived.Test.YtdpaoaoipnoiiaaRatC
import Derived.Test.YtdpaoaoipnoiiaaIntS
namespace Go.Proofs.Ytdpaoaoipnoiiaa
open Go.ChangeShapes Go.WideShapes Go.ChangeAt Go.RowKit
set_option maxRecDepth 100000
/-- The sum of the first k ratings, each within the scale. -/
def sumR (S : List Int) (k : Nat) : Int := ((S.take k).map fun x => clp x 0 3000).sum
theorem sumR_succ {S : List Int} {k : Nat} (hk : k < S.length) : sumR S (k + 1) = sumR S k + clp S[k] 0 3000 := by
  unfold sumR
  rw [List.take_succ_eq_append_getElem hk]
  simp only [List.map_append, List.sum_append, List.map_cons, List.map_nil, List.sum_cons, List.sum_nil, Int.add_zero]
theorem sumR_in (S : List Int) : ∀ k, k ≤ S.length → 0 ≤ sumR S k ∧ sumR S k ≤ 3000 * k
  | 0, _ => by simp [sumR]
  | k + 1, h => by
    rw [sumR_succ (by omega)]
    have := sumR_in S k (by omega)
    have := clp_in (x := S[k]'(by omega)) (lo := 0) (hi := 3000) (by omega)
    omega
theorem clp_s3 (x : Int) : mx 0 (mn 3000 x) = clp x 0 3000 := by
  unfold clp mn mx
  split <;> split <;> split <;> (try split) <;> omega
set_option maxHeartbeats 2000000 in
theorem specSumRatings_any {w : World} {A : Option Addr} {n c : Nat} {S : List Int} (hl : Hid (S.length = n)) (hn : n ≤ 1099511627776) (hr : Rd w w.heap.size A (ivs S)) :
    Calls Try.prog 43 #[.slice A n c] w (fun e w' => e = .returned (.int .i64 (sumR S n)) ∧ Below w.heap.size w w') := by
  go_enter Try.func43, Try.ntmps43
  go_wp2_with fail
  go_loopw [3, 4] (fun m i wr => ∃ (k : Nat) (z : Int), k ≤ n ∧ i = .int .i64 k ∧ m = .int .i64 z ∧ Hid (z = sumR S k) ∧ wr = w) (fun _ i _ => n - (intOf i).toNat)
  case atStart => exact ⟨0, 0, Nat.zero_le _, rfl, rfl, Lib.hid rfl, rfl⟩
  case round =>
    obtain ⟨k, z, hk, rfl, rfl, hz, rfl⟩ := hrel
    by_cases hlt : k < n
    · have hkz : k < S.length := by rw [hl.out]; exact hlt
      obtain ⟨ad, rfl, hab, hc⟩ := ivs_at hr hkz
      have i0 : (0 : Int) ≤ (k : Int) := by omega
      have HS := Lib.hid (sumR_succ hkz)
      have hzb := sumR_in S k (by omega)
      rw [← hz.out] at hzb
      rw [← hz.out] at HS
      obtain ⟨x, hx⟩ : ∃ x, x = S[k] := ⟨_, rfl⟩
      rw [← hx] at hc HS
      have HC := Lib.hid (clp_s3 x)
      have hcb := clp_in (x := x) (lo := 0) (hi := 3000) (by omega)
      obtain ⟨y, hy⟩ : ∃ y, y = clp x 0 3000 := ⟨_, rfl⟩
      rw [← hy] at HC HS hcb
      have ww := IntWalk.i64_in (z + y) (by omega)
      clear hx hy
      go_wp2_with fail
      refine (smin_any _ _ _).mono ?_
      rintro e u ⟨rfl, rfl⟩
      go_wp2_with fail
      refine (smax_any _ _ _).mono ?_
      rintro e u ⟨rfl, rfl⟩
      rw [HC.out]
      go_wp2_with fail
      go_roundw
      case rel => exact ⟨k + 1, z + y, by omega, by go_num, by go_num, Lib.hid HS.out.symm, trivial⟩
      case measure => simp [intOf]; omega
    · have e : k = n := by omega
      subst e
      go_wp2_with fail
      go_ret
      exact ⟨ret_i hz.out, Below.refl _ _⟩
set_option maxHeartbeats 2000000 in
theorem impSumRatings_any {w : World} {A : Option Addr} {n c : Nat} {S : List Int} (hl : Hid (S.length = n)) (hn : n ≤ 1099511627776) (hr : Rd w w.heap.size A (ivs S)) :
    Calls Try.prog 21 #[.slice A n c] w (fun e w' => e = .returned (.int .i64 (sumR S n)) ∧ Below w.heap.size w w') := by
  go_enter Try.func21, Try.ntmps21
  go_wp2_with fail
  go_loopw [3, 8] (fun m i wr => ∃ (k : Nat) (z : Int), k ≤ n ∧ i = .int .i64 k ∧ m = .int .i64 z ∧ Hid (z = sumR S k) ∧ Below w.heap.size w wr) (fun _ i _ => n - (intOf i).toNat)
  case atStart => exact ⟨0, 0, Nat.zero_le _, rfl, rfl, Lib.hid rfl, Below.refl _ _⟩
  case round =>
    obtain ⟨k, z, hk, rfl, rfl, hz, hb⟩ := hrel
    by_cases hlt : k < n
    · have hkz : k < S.length := by rw [hl.out]; exact hlt
      obtain ⟨ad, rfl, hab, hc⟩ := ivs_at ((hr.below hb).more hb.size) hkz
      have i0 : (0 : Int) ≤ (k : Int) := by omega
      have HS := Lib.hid (sumR_succ hkz)
      have hzb := sumR_in S k (by omega)
      rw [← hz.out] at hzb
      rw [← hz.out] at HS
      obtain ⟨x, hx⟩ : ∃ x, x = S[k] := ⟨_, rfl⟩
      rw [← hx] at hc HS
      have hcb := clp_in (x := x) (lo := 0) (hi := 3000) (by omega)
      obtain ⟨y, hy⟩ : ∃ y, clp x 0 3000 = y := ⟨_, rfl⟩
      rw [hy] at HS hcb
      have HY := Lib.hid hy
      have ww := IntWalk.i64_in (z + y) (by omega)
      have bx := Bx.made wr 3 #[.int .i64 x]
      have b1 := alloc_r wr (Obj.cells #[.int .i64 x] 3)
      obtain ⟨W1, hW⟩ : ∃ W1, wr.alloc (Obj.cells #[Value.int .i64 x] 3) = W1 := ⟨_, rfl⟩
      rw [hW] at bx b1
      have HW := Lib.hid hW
      have HBX := Lib.hid bx
      have HB1 := Lib.hid (hb.trans (b1.mono hb.size))
      have hsz := hb.size
      clear hx hy hW bx b1
      go_wp2_with fail
      rw [HW.out]
      try (go_wp2_with fail)
      refine (keep_any HBX.out).mono ?_
      rintro e w2 ⟨rfl, bx2, b2⟩
      rw [HY.out] at bx2
      have c2 := bx2.at_ (k := 0) rfl
      have HB2 := Lib.hid (HB1.out.trans (b2.mono hsz))
      clear bx2 b2
      go_wp2_with fail
      go_roundw
      case rel => exact ⟨k + 1, z + y, by omega, by go_num, by go_num, Lib.hid HS.out.symm, HB2.out⟩
      case measure => simp [intOf]; omega
    · have e : k = n := by omega
      subst e
      go_wp2_with fail
      go_ret
      exact ⟨ret_i hz.out, hb⟩
end Go.Proofs.Ytdpaoaoipnoiiaa
