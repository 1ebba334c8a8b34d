/- Sums of WinnerOf: who wins on a line. -/
import Derived.Test.YtejncjjkcmhmbaaLineMath
import Derived.Test.YtejncjjkcmhmbaaGameMath
namespace Go.Proofs.Ytejncjjkcmhmbaa
def frsT : List UInt8 := [102, 105, 114, 115, 116]
def sctT : List UInt8 := [115, 101, 99, 111, 110, 100]
def nonT : List UInt8 := [110, 111, 110, 101]
/-- The claims that the one who is to answer has used. -/
def winU (L : List Int) : List Int := if L.length % 2 = 0 then usd L (L.length / 2) else []
def winL (N : Int) (X : List (List Int)) (L : List Int) : List Int := ansL N X (winU L) (L.getD (L.length - 1) 0)
def winT (N : Int) (X : List (List Int)) (L : List Int) : List UInt8 :=
  if lineB N X L then (if (winL N X L).length = 0 then (if L.length % 2 = 0 then sctT else frsT) else nonT) else []
theorem ansL_nil (N : Int) (X : List (List Int)) (c : Int) : ansL N X [] c = atk N X c := by
  unfold ansL
  rw [List.filter_eq_self]
  intro a _
  rfl
section
variable {N : Int} {X : List (List Int)} {L : List Int}
theorem winT_no (h : lineB N X L = false) : winT N X L = [] := by unfold winT; rw [h]; rfl
theorem winT_none (h : lineB N X L = true) (h0 : 0 < (winL N X L).length) : winT N X L = nonT := by unfold winT; rw [if_pos h, if_neg (by omega)]
theorem winT_sct (h : lineB N X L = true) (h0 : (winL N X L).length = 0) (h2 : L.length % 2 = 0) : winT N X L = sctT := by unfold winT; rw [if_pos h, if_pos h0, if_pos h2]
theorem winT_frs (h : lineB N X L = true) (h0 : (winL N X L).length = 0) (h2 : L.length % 2 ≠ 0) : winT N X L = frsT := by unfold winT; rw [if_pos h, if_pos h0, if_neg h2]
theorem winU_even (h2 : L.length % 2 = 0) : winU L = usd L (L.length / 2) := by unfold winU; rw [if_pos h2]
theorem winU_odd (h2 : L.length % 2 ≠ 0) : winU L = [] := by unfold winU; rw [if_neg h2]
theorem winU_len : (winU L).length ≤ L.length := by
  unfold winU
  split
  · rw [usd_len]; omega
  · simp
theorem line_pos (h : lineB N X L = true) : 0 < L.length := by
  unfold lineB at h
  rw [Bool.and_eq_true, decide_eq_true_iff] at h
  exact h.2
end
end Go.Proofs.Ytejncjjkcmhmbaa
