/- Contract of the code's rowsOf. No conditions but that the slices have at most 2^40 elements. -/
import Derived.Test.YtdpaoaoipnoiiaaIsG2
import Derived.Test.YtdpaoaoipnoiiaaRowMath
namespace Go.Proofs.Ytdpaoaoipnoiiaa
open Go.ChangeShapes Go.WideShapes Go.ChangeAt Go.RowKit
theorem arC_lit (n : Int) : #[Value.int .i64 n, .int .u16 0, .int .u16 0, .int .u16 0, .int .u16 0, .int .u16 0, .int .u16 0, .int .u16 0, .int .u16 0, .int .u16 0, .int .u16 0] = arC n fun _ => 0 := rfl
theorem Bx.eleven {w : World} {g : Nat} {t : TypeId} {n : Int} {f : Nat → Nat} (h : Bx w g t (arC n f)) :
    w.cell? ⟨g, 0, none⟩ = some (.int .i64 n) ∧ w.cell? ⟨g, 1, none⟩ = some (.int .u16 (f 0 : Nat)) ∧ w.cell? ⟨g, 2, none⟩ = some (.int .u16 (f 1 : Nat)) ∧ w.cell? ⟨g, 3, none⟩ = some (.int .u16 (f 2 : Nat)) ∧ w.cell? ⟨g, 4, none⟩ = some (.int .u16 (f 3 : Nat)) ∧ w.cell? ⟨g, 5, none⟩ = some (.int .u16 (f 4 : Nat)) ∧ w.cell? ⟨g, 6, none⟩ = some (.int .u16 (f 5 : Nat)) ∧ w.cell? ⟨g, 7, none⟩ = some (.int .u16 (f 6 : Nat)) ∧ w.cell? ⟨g, 8, none⟩ = some (.int .u16 (f 7 : Nat)) ∧ w.cell? ⟨g, 9, none⟩ = some (.int .u16 (f 8 : Nat)) ∧ w.cell? ⟨g, 10, none⟩ = some (.int .u16 (f 9 : Nat)) :=
  ⟨h.at_ rfl, h.at_ rfl, h.at_ rfl, h.at_ rfl, h.at_ rfl, h.at_ rfl, h.at_ rfl, h.at_ rfl, h.at_ rfl, h.at_ rfl, h.at_ rfl⟩
theorem att_take {X : List (List Int)} {k : Nat} (hk : k < X.length) {p q : Nat} (hx : X[k] = [(p : Int), (q : Int)]) : att (X.take (k + 1)) = upd (att (X.take k)) p q := by
  rw [List.take_succ_eq_append_getElem hk, att_snoc, hx]; simp
end Go.Proofs.Ytdpaoaoipnoiiaa
