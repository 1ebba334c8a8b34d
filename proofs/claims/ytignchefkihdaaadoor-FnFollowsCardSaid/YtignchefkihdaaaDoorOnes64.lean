/- Contract of math/bits.OnesCount64, for every number of 64 bits. No conditions. -/
import Derived.Test.YtignchefkihdaaaDoorPop64
import Derived.Test.YtignchefkihdaaaDoorMg4
import Derived.IntWalk
import Derived.Laws.Bits128
namespace Go.Proofs.YtignchefkihdaaaDoor
open Go.ChangeShapes Go.WideShapes Go.ChangeAt Go.RowKit
set_option maxRecDepth 100000
theorem and_u64 (a : Nat) {m : Nat} {z : Int} (ha : a < 18446744073709551616) (hm : m < 18446744073709551616) (hz : z = (m : Int)) : bits .and .u64 (a : Int) z = ((a &&& m : Nat) : Int) := by
  rw [hz]; exact u64_and_nat a m ha hm
theorem mk85 : mk 85 8 = 6148914691236517205 := by decide +kernel
theorem mk51 : mk 51 8 = 3689348814741910323 := by decide +kernel
theorem mk15 : mk 15 8 = 1085102592571150095 := by decide +kernel
set_option maxHeartbeats 2000000 in
theorem ones64_any {w : World} {x : Nat} (hx : x < 18446744073709551616) : Calls Tryd.prog 28 #[.int .u64 x] w (fun e w' => e = .returned (.int .i64 (cnt 64 x : Nat)) ∧ w = w') := by
  obtain ⟨y1, y2, y3, e1, e2, e3, b3, b1, b2, b0, hc⟩ := g3_fold hx
  obtain ⟨A1, hA1⟩ : ∃ A1, A1 = x / 2 &&& mk 85 8 := ⟨_, rfl⟩
  obtain ⟨A2, hA2⟩ : ∃ A2, A2 = x &&& mk 85 8 := ⟨_, rfl⟩
  obtain ⟨S1, hS1⟩ : ∃ S1, S1 = A1 + A2 := ⟨_, rfl⟩
  obtain ⟨B1, hB1⟩ : ∃ B1, B1 = S1 / 4 &&& mk 51 8 := ⟨_, rfl⟩
  obtain ⟨B2, hB2⟩ : ∃ B2, B2 = S1 &&& mk 51 8 := ⟨_, rfl⟩
  obtain ⟨S2, hS2⟩ : ∃ S2, S2 = B1 + B2 := ⟨_, rfl⟩
  obtain ⟨G, hG⟩ : ∃ G, G = (S2 / 16 + S2) &&& mk 15 8 := ⟨_, rfl⟩
  have hg : g3 8 x = G := by rw [hG, hS2, hB2, hB1, hS1, hA1, hA2]; rfl
  rw [hg] at e1 b0
  have lA1 : A1 ≤ 6148914691236517205 := by rw [hA1, ← mk85]; exact Nat.and_le_right
  have lA2 : A2 ≤ 6148914691236517205 := by rw [hA2, ← mk85]; exact Nat.and_le_right
  have lB1 : B1 ≤ 3689348814741910323 := by rw [hB1, ← mk51]; exact Nat.and_le_right
  have lB2 : B2 ≤ 3689348814741910323 := by rw [hB2, ← mk51]; exact Nat.and_le_right
  have f1 : bits .and .u64 ((x : Int) / 2) 6148914691236517205 = (A1 : Int) := by
    rw [show (x : Int) / 2 = ((x / 2 : Nat) : Int) by omega, and_u64 (m := mk 85 8) _ (by omega) (by rw [mk85]; decide) (by rw [mk85]; rfl), hA1]
  have f2 : bits .and .u64 (x : Int) 6148914691236517205 = (A2 : Int) := by
    rw [and_u64 (m := mk 85 8) _ (by omega) (by rw [mk85]; decide) (by rw [mk85]; rfl), hA2]
  have f3 : bits .and .u64 (((A1 : Int) + A2) / 4) 3689348814741910323 = (B1 : Int) := by
    rw [show ((A1 : Int) + A2) / 4 = ((S1 / 4 : Nat) : Int) by omega, and_u64 (m := mk 51 8) _ (by omega) (by rw [mk51]; decide) (by rw [mk51]; rfl), hB1]
  have f4 : bits .and .u64 ((A1 : Int) + A2) 3689348814741910323 = (B2 : Int) := by
    rw [show ((A1 : Int) + A2) = ((S1 : Nat) : Int) by omega, and_u64 (m := mk 51 8) _ (by omega) (by rw [mk51]; decide) (by rw [mk51]; rfl), hB2]
  have f5 : bits .and .u64 (((B1 : Int) + B2) / 16 + ((B1 : Int) + B2)) 1085102592571150095 = (G : Int) := by
    rw [show ((B1 : Int) + B2) / 16 + ((B1 : Int) + B2) = ((S2 / 16 + S2 : Nat) : Int) by omega, and_u64 (m := mk 15 8) _ (by omega) (by rw [mk15]; decide) (by rw [mk15]; rfl), hG]
  have HY := Lib.hid (show (G : Int) + (G : Int) / 256 = (y1 : Int) by omega)
  have HZ := Lib.hid (show (y1 : Int) + (y1 : Int) / 65536 = (y2 : Int) by omega)
  have HU := Lib.hid (show (y2 : Int) + (y2 : Int) / 4294967296 = (y3 : Int) by omega)
  have HC := Lib.hid (show bits .and .i64 (y3 : Int) 127 = (cnt 64 x : Nat) by
    rw [i64_and127, ← hc]; omega)
  have l1 : G + G / 256 < 9223372036854775808 := by omega
  clear hA1 hA2 hB1 hB2 hG hS1 hS2 hg e1 e2 e3 hc
  go_enter Tryd.func28, Tryd.ntmps28
  go_wp2_with fail
  go_ret
  exact ⟨ret_i (by rw [HY.out, HZ.out, HU.out, IntWalk.wrap64_in _ ⟨by omega, by omega⟩]; exact HC.out), rfl⟩
end Go.Proofs.YtignchefkihdaaaDoor
