/- Contract of cmp.Compare at int. No conditions. -/
import Derived.Test.YthkigilegnjglaaRkMath
import Derived.Test.YthkigilegnjglaaMg2
namespace Go.Proofs.Ythkigilegnjglaa
open Go.ChangeShapes Go.WideShapes Go.ChangeAt Go.RowKit
set_option maxRecDepth 100000
theorem isNaN_n {w : World} {a : Int} : Calls Try.prog 135 #[.int .i64 a] w (fun e w' => e = .returned (.bool false) ∧ w = w') := by
  have h : (a != a) = false := by simp
  go_enter Try.func135, Try.ntmps135
  go_wp2_with fail
  go_ret
  exact ⟨rfl, rfl⟩
set_option maxHeartbeats 1000000 in
theorem cmp_n {w : World} {a b : Int} : Calls Try.prog 121 #[.int .i64 a, .int .i64 b] w (fun e w' => e = .returned (.int .i64 (cmpI a b)) ∧ w = w') := by
  by_cases h1 : a < b
  · have HV := Lib.hid (show cmpI a b = -1 by unfold cmpI; rw [if_pos h1])
    go_enter Try.func121, Try.ntmps121
    go_wp2_with fail
    refine isNaN_n.mono ?_
    rintro e u ⟨rfl, rfl⟩
    go_wp2_with fail
    refine isNaN_n.mono ?_
    rintro e u ⟨rfl, rfl⟩
    go_wp2_with fail
    go_ret
    exact ⟨ret_i HV.out.symm, rfl⟩
  · by_cases h2 : b < a
    · have HV := Lib.hid (show cmpI a b = 1 by unfold cmpI; rw [if_neg h1, if_pos h2])
      go_enter Try.func121, Try.ntmps121
      go_wp2_with fail
      refine isNaN_n.mono ?_
      rintro e u ⟨rfl, rfl⟩
      go_wp2_with fail
      refine isNaN_n.mono ?_
      rintro e u ⟨rfl, rfl⟩
      go_wp2_with fail
      go_ret
      exact ⟨ret_i HV.out.symm, rfl⟩
    · have HV := Lib.hid (show cmpI a b = 0 by unfold cmpI; rw [if_neg h1, if_neg h2])
      go_enter Try.func121, Try.ntmps121
      go_wp2_with fail
      refine isNaN_n.mono ?_
      rintro e u ⟨rfl, rfl⟩
      go_wp2_with fail
      refine isNaN_n.mono ?_
      rintro e u ⟨rfl, rfl⟩
      go_wp2_with fail
      go_ret
      exact ⟨ret_i HV.out.symm, rfl⟩
end Go.Proofs.Ythkigilegnjglaa
