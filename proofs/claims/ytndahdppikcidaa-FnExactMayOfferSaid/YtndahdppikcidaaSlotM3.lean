/- Contract of the model Speak. No conditions but the integers' own. -/
import Derived.Test.YtndahdppikcidaaSlotM2
import Derived.Test.YtndahdppikcidaaBits
namespace Go.Proofs.Ytndahdppikcidaa
open Go.ChangeShapes Go.WideShapes Go.ChangeAt Go.RowKit
set_option maxRecDepth 100000
theorem Bx.sets3 {w : World} {g : Nat} {t : TypeId} {a b c x y z : Value} (h : Bx w g t #[a, b, c]) : Bx (((w.setCell ⟨g, 0, none⟩ x).setCell ⟨g, 1, none⟩ y).setCell ⟨g, 2, none⟩ z) g t #[x, y, z] := ((h.set 0 x).set 1 y).set 2 z
theorem below_sets3 {B : Nat} {w0 w : World} {g : Nat} {x y z : Value} (h : Below B w0 w) (hg : B ≤ g) : Below B w0 (((w.setCell ⟨g, 0, none⟩ x).setCell ⟨g, 1, none⟩ y).setCell ⟨g, 2, none⟩ z) := ((h.setCell hg x).setCell hg y).setCell hg z
theorem spk_no {s : T3} {n : Int} (h : (slB s && decide (0 ≤ n)) = false) : spkK s n = 0 := by unfold spkK; rw [h]; rfl
theorem spk_yes {s : T3} {n : Int} (h : slB s = true) (hn : 0 ≤ n) : spkK s n = mn n (s.2.1 + 15 - s.2.2) := by unfold spkK mn; rw [h, decide_eq_true hn, Bool.true_and, if_pos rfl]; split <;> omega
theorem spkS_no {s : T3} {n : Int} (h : (slB s && decide (0 ≤ n)) = false) : spkS s n = s := by unfold spkS; rw [spk_no h]; simp
section
variable {w : World} {a b c n : Int}
end
end Go.Proofs.Ytndahdppikcidaa
