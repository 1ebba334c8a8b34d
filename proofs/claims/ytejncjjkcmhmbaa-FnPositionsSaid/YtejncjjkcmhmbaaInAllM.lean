/- Contract of the model of InAll. Condition: the slices have at most 2^40 elements. -/
import Derived.Test.YtejncjjkcmhmbaaInAllD
import Derived.Test.YtejncjjkcmhmbaaMg18
import Derived.Test.YtejncjjkcmhmbaaViewMath
import Derived.BigQuiet
namespace Go.Proofs.Ytejncjjkcmhmbaa
open Go.ChangeShapes Go.WideShapes Go.ChangeAt Go.RowKit
set_option maxRecDepth 100000
theorem inAllL_eq (X : List (List Int)) : inAllL X = inAll X := by cases X <;> rfl
theorem inAllL_len (X : List (List Int)) : (inAllL X).length ≤ psum X X.length := by
  cases X with
  | nil => simp [inAllL]
  | cons x r => exact Nat.le_trans (List.length_filter_le _ _) (psum_mem (x :: r) x (by simp))
theorem l4Has_Q {w : World} {A : Option Addr} {n c : Nat} {a : Int} {S : List Int} {b : Bool} (hl : Hid (S.length = n)) (hn : n ≤ 1099511627776) (hr : Rd w w.heap.size A (ivs S)) (hb : S.contains a = b) (m : Nat) :
    Calls Try.prog 62 #[.slice A n c, .int .i64 a] (w.drewN m) (fun e w' => e = .returned (.bool b) ∧ ∃ m', w' = (w.drewN m).drewN m') :=
  (l4Has_any (w := w.drewN m) hl hn (hr.drewN m)).mono fun _ _ ⟨he, hw⟩ => ⟨by rw [he, hb], 0, hw.symm⟩
end Go.Proofs.Ytejncjjkcmhmbaa
