/- Contract of slices.Delete of one element of a list of lists that the call owns. Condition: the slice has at most 2^40 elements. -/
import Derived.Test.YtignchefkihdaaaDoorPickSS
import Derived.Test.YtignchefkihdaaaDoorTabC3
import Derived.Deep.RegionLaw
import Derived.Lib.SliceRun
namespace Go.Proofs.YtignchefkihdaaaDoor
open Go.ChangeShapes Go.WideShapes Go.ChangeAt Go.RowKit
set_option maxRecDepth 100000
theorem run_mid3 {P : Program} (W : World) (t e : TypeId) (ht : P.underlying t = some (.slice e)) (hz : ∀ w, (Go.sizeOf e).run P w = .ok 1 w) (A : Option Addr) {n c l h : Nat} (h0 : l ≤ h) (h1 : h ≤ n) (h2 : n ≤ c) :
    (Instr.slice t (.slice A n c) (some (.int .i64 (l : Int))) (some (.int .i64 (h : Int))) (some (.int .i64 (n : Int)))).run P W = .ok (.slice (tlA A l n) (h - l) (n - l)) W := by
  have ht' : P.underlying t = some (.slice (P.elem t)) := by simp [Program.elem, ht]
  have he : P.elem t = e := by simp [Program.elem, ht]
  rw [run_slice_lhm W t _ _ _ ht' .i64 .i64 .i64 _ _ _ (by omega) (by omega) (by omega) (by omega), he, hz]
  unfold tlA
  by_cases h0 : n = l
  · simp [Result.andThen, sliced, h0]
  · simp [Result.andThen, sliced, h0]
theorem run_mid {P : Program} (W : World) (t e : TypeId) (ht : P.underlying t = some (.slice e)) (hz : ∀ w, (Go.sizeOf e).run P w = .ok 1 w) (A : Option Addr) {n c l h : Nat} (h0 : l ≤ h) (h2 : h ≤ c) :
    (Instr.slice t (.slice A n c) (some (.int .i64 (l : Int))) (some (.int .i64 (h : Int))) none).run P W = .ok (.slice (tlA A l c) (h - l) (c - l)) W := by
  have ht' : P.underlying t = some (.slice (P.elem t)) := by simp [Program.elem, ht]
  have he : P.elem t = e := by simp [Program.elem, ht]
  rw [run_slice_lh W t _ _ _ ht' .i64 .i64 _ _ (by omega) (by omega) (by omega), he, hz]
  unfold tlA
  by_cases h0 : c = l
  · simp [Result.andThen, sliced, h0]
  · simp [Result.andThen, sliced, h0]
theorem tlA_some (g l c : Nat) : ∃ ad, tlA (some ⟨g, 0, none⟩) l c = some ad ∧ (l < c → ad = ⟨g, l, none⟩) := by
  unfold tlA
  by_cases h : c = l
  · exact ⟨_, if_pos h, fun h2 => by omega⟩
  · exact ⟨_, if_neg h, fun _ => add0 g l⟩
theorem zeroSS (w : World) : (zeroValue 25).run Tryd.prog w = .ok (.slice none 0 0) w := by
  obtain ⟨i0, hi, hz0, hz1, hz2⟩ := info_parts SS_info2
  simp [zeroValue, typeInfo, hi, hz0]
end Go.Proofs.YtignchefkihdaaaDoor
