/- Contracts of the laws' own functions over slots: toSlot, eqSlot, szSlotS, toSlotS, eqSlotS. No conditions but that the slices have at most 2^40 elements. -/
import Derived.Test.YtndahdppikcidaaOpen3
import Derived.Test.YtndahdppikcidaaGraph
import Derived.BigQuiet
import Derived.Deep.Quiet
namespace Go.Proofs.Ytndahdppikcidaa
open Go.ChangeShapes Go.WideShapes Go.ChangeAt Go.RowKit
set_option maxRecDepth 100000
/-- A struct of three integers as a value. -/
def t3V (p : T3) : Value := .agg #[.int .i64 p.1, .int .i64 p.2.1, .int .i64 p.2.2]
theorem toSlot_any {w : World} {a b c : Int} :
    Calls Try.prog 48 #[.agg #[.int .i64 a, .int .i64 b, .int .i64 c]] w (fun e w' => e = .returned (.agg #[.int .i64 a, .int .i64 b, .int .i64 c]) ∧ Below w.heap.size w w') := by
  go_enter Try.func48, Try.ntmps48
  go_wp2_with fail
  refine bodyPost_ret (v := .agg #[.int .i64 a, .int .i64 b, .int .i64 c]) (by simp [results, Try.results48, go_sem]) rfl ⟨rfl, ?_⟩
  exact (((Below.refl _ _).alloc (Nat.le_refl _) _).alloc (by simp) _).alloc (by simp; omega) _
end Go.Proofs.Ytndahdppikcidaa
