/- Contracts of the models of chapter 14: IsSlot, Speak, LeftOf, OverBy, TotalUsed. Condition: the slice has at most 2^20 elements. -/
import Derived.Test.YtndahdppikcidaaSlotA
import Derived.Test.YtndahdppikcidaaClkMath
import Derived.Test.YtndahdppikcidaaInts
namespace Go.Proofs.Ytndahdppikcidaa
open Go.ChangeShapes Go.WideShapes Go.ChangeAt Go.RowKit
set_option maxRecDepth 100000
theorem alloc_new' (w : World) (o : Obj) : Below w.heap.size w (w.alloc o) := (Below.refl _ _).alloc (Nat.le_refl _) o
set_option maxHeartbeats 1000000 in
theorem specIsSlot_any {w : World} {a b c : Int} : Calls Try.prog 86 #[.agg #[.int .i64 a, .int .i64 b, .int .i64 c]] w (Tells (slB (a, b, c)) w) := by
  have hb1 := alloc_new' w (Obj.cells #[Value.int .i64 a, .int .i64 b, .int .i64 c] 64)
  by_cases h1 : inr a 1 99 = true
  · by_cases h2 : inr b 1 1000 = true
    · have hb := inrI h2
      have hw := IntWalk.i64_in (b + 15) (by omega)
      have HV := Lib.hid (show slB (a, b, c) = inr c 0 (b + 15) by unfold slB; simp only [h1, h2, Bool.true_and])
      have H1 := Lib.hid h1
      have H2 := Lib.hid h2
      clear h1 h2
      obtain ⟨r, hr⟩ : ∃ r, inr c 0 (b + 15) = r := ⟨_, rfl⟩
      have HR := Lib.hid hr
      rw [hr] at HV
      clear hr
      go_enter Try.func86, Try.ntmps86
      go_wp2_with fail
      refine (l1In_any _ _ _ _).mono ?_
      rintro e u ⟨rfl, rfl⟩
      rw [H1.out]
      go_wp2_with fail
      refine (l1In_any _ _ _ _).mono ?_
      rintro e u ⟨rfl, rfl⟩
      rw [H2.out]
      go_wp2_with fail
      refine (l1In_any _ _ _ _).mono ?_
      rintro e u ⟨rfl, rfl⟩
      rw [HR.out]
      go_wp2_with fail
      go_ret
      exact ⟨ret_b HV.out.symm, hb1⟩
    · have h2 : inr b 1 1000 = false := by simpa using h2
      have HV := Lib.hid (show slB (a, b, c) = false by unfold slB; simp only [h1, h2]; rfl)
      have H1 := Lib.hid h1
      have H2 := Lib.hid h2
      clear h1 h2
      go_enter Try.func86, Try.ntmps86
      go_wp2_with fail
      refine (l1In_any _ _ _ _).mono ?_
      rintro e u ⟨rfl, rfl⟩
      rw [H1.out]
      go_wp2_with fail
      refine (l1In_any _ _ _ _).mono ?_
      rintro e u ⟨rfl, rfl⟩
      rw [H2.out]
      go_wp2_with fail
      go_ret
      exact ⟨ret_b HV.out.symm, hb1⟩
  · have h1 : inr a 1 99 = false := by simpa using h1
    have HV := Lib.hid (show slB (a, b, c) = false by unfold slB; simp only [h1]; rfl)
    have H1 := Lib.hid h1
    clear h1
    go_enter Try.func86, Try.ntmps86
    go_wp2_with fail
    refine (l1In_any _ _ _ _).mono ?_
    rintro e u ⟨rfl, rfl⟩
    rw [H1.out]
    go_wp2_with fail
    go_ret
    exact ⟨ret_b HV.out.symm, hb1⟩
theorem tot_snoc (X : List T3) (w : Int) {k : Nat} (hk : k < X.length) : totN (X.take (k + 1)) w = totN (X.take k) w + totP w X[k] := by
  unfold totN
  rw [List.take_succ_eq_append_getElem hk, List.foldl_append]
  rfl
end Go.Proofs.Ytndahdppikcidaa
