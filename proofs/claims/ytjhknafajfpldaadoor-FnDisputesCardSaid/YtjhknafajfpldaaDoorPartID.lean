/- Contract of the code's IsPartOf. Condition: the slices have at most 2^40 elements. -/
import Derived.Test.YtjhknafajfpldaaDoorPartM
namespace Go.Proofs.YtjhknafajfpldaaDoor
open Go.ChangeShapes Go.WideShapes Go.ChangeAt Go.RowKit
set_option maxRecDepth 100000
section
variable {w : World} {A A' : Option Addr} {n c n' c' : Nat} {M N : Int} {X Y : List (List Int)}
set_option maxHeartbeats 8000000 in
theorem partOf_D {m q : Nat} (hm : m ≤ 10) (_hq : q ≤ 10) (hX : gB m X = true) (hY : gB q Y = true) (hmq : m ≤ q) (hl : Hid (X.length = n)) (hn : n ≤ 1099511627776) (hr : RdSS w w.heap.size A X) (hl' : Hid (Y.length = n')) (hn' : n' ≤ 1099511627776) (hr' : RdSS w w.heap.size A' Y) :
    Calls Tryd.prog 10 #[.agg #[.int .i64 m, .slice A n c], .agg #[.int .i64 q, .slice A' n' c']] w (Tells (partB m X q Y) w) := by
  obtain ⟨W2, hW2, b0, b1, hb2, hs2⟩ := two_blocks w #[Value.int IntKind.i64 m, Value.slice A n c] #[Value.int IntKind.i64 q, Value.slice A' n' c'] 26 26
  have hr2 := (hr.below hb2).more hb2.size
  have hr2' := (hr'.below hb2).more hb2.size
  have KE := fun (w' : World) (k : Below W2.heap.size W2 w') => four_new b0 b1 k
  obtain ⟨C0, C1⟩ := b0.two
  obtain ⟨D0, D1⟩ := b1.two
  have HR := Lib.hid hr2
  have HR' := Lib.hid hr2'
  clear hr hr' hr2 hr2'
  have HX := Lib.hid hX
  have HY := Lib.hid hY
  have HP := Lib.hid (part_code hX hY hmq)
  have hle : decide ((m : Int) ≤ q) = true := decide_eq_true (by omega)
  have HRX := Lib.hid (rn_eq hX)
  have HRY := Lib.hid (rn_eq hY)
  have hfx := rf_lt m X
  have hfy := rf_lt q Y
  have HQ := Lib.hid (arC_eql m (rf m X) (fstR m (rf q Y) m))
  obtain ⟨F, hF⟩ : ∃ F, F = rf m X := ⟨_, rfl⟩
  obtain ⟨H, hH⟩ : ∃ H, H = rf q Y := ⟨_, rfl⟩
  rw [← hF] at HP HQ
  rw [← hH] at HP HQ hfy
  obtain ⟨cs1, hcs1⟩ : ∃ cs1, cs1 = arC (m : Int) F := ⟨_, rfl⟩
  obtain ⟨cs2, hcs2⟩ : ∃ cs2, cs2 = arC (m : Int) (fstR m H m) := ⟨_, rfl⟩
  rw [← hcs1, ← hcs2] at HQ
  have hq1 := HQ.out
  have hq2 := fun (w : World) (x y : Operand) => run_eqGuard_agg (P := Tryd.prog) w .eql 49 x y cs1 cs2 AR_guard
  have HC1 := Lib.hid hcs1
  have HC2 := Lib.hid hcs2
  have HF := Lib.hid hF
  have HH := Lib.hid hH
  clear hX hY hF hH hcs1 hcs2 HQ
  go_enter Tryd.func10, Tryd.ntmps10
  go_wp2_with fail
  go_region_held3 (fun w' => Below W2.heap.size W2 w' ∧ w'.cell? ⟨w.heap.size, 0, none⟩ = some (.int .i64 m) ∧ w'.cell? ⟨w.heap.size, 1, none⟩ = some (.slice A n c) ∧ w'.cell? ⟨w.heap.size + 1, 0, none⟩ = some (.int .i64 q) ∧ w'.cell? ⟨w.heap.size + 1, 1, none⟩ = some (.slice A' n' c')) (first | assumption | with_reducible exact KE _ (Below.refl _ _) | with_reducible exact KE _ (Below.refl _ _).drew | with_reducible exact KE _ k9 | with_reducible exact KE _ (Below.drew k9))
    (first
    | (go_at_call 9; (with_reducible refine (impIsGraph_any (N := m) (X := X) (c := c) hl hn (rdSS_nw HR.out (‹Below W2.heap.size W2 _ ∧ _›).1)).mono ?_); rintro e u9 ⟨he, hb9⟩; rw [HX.out] at he; subst he; have k9 := trans_new (‹Below W2.heap.size W2 _ ∧ _›).1 hb9)
    | (go_at_call 9; (with_reducible refine (impIsGraph_any (N := q) (X := Y) (c := c') hl' hn' (rdSS_nw HR'.out (‹Below W2.heap.size W2 _ ∧ _›).1)).mono ?_); rintro e u9 ⟨he, hb9⟩; rw [HY.out] at he; subst he; have k9 := trans_new (‹Below W2.heap.size W2 _ ∧ _›).1 hb9)
    | (go_at_call 23; (with_reducible refine (rowsOf_any (N := m) (X := X) (c := c) hl hn (rdSS_nw HR.out (‹Below W2.heap.size W2 _ ∧ _›).1)).mono ?_); rintro e u9 ⟨he, hb9⟩; rw [HRX.out, ← HF.out, ← HC1.out] at he; subst he; have k9 := trans_new (‹Below W2.heap.size W2 _ ∧ _›).1 hb9)
    | (go_at_call 23; (with_reducible refine (rowsOf_any (N := q) (X := Y) (c := c') hl' hn' (rdSS_nw HR'.out (‹Below W2.heap.size W2 _ ∧ _›).1)).mono ?_); rintro e u9 ⟨he, hb9⟩; rw [HRY.out, ← HH.out] at he; subst he; have k9 := trans_new (‹Below W2.heap.size W2 _ ∧ _›).1 hb9)
    | (go_at_call 35; (with_reducible refine (first_any (m := q) (n := m) (f := H) hm hfy).mono ?_); rintro e u9 ⟨he, hb9⟩; rw [← HC2.out] at he; subst he; have k9 := trans_new (‹Below W2.heap.size W2 _ ∧ _›).1 hb9))
  go_wp2_with fail
  go_ret
  exact ⟨ret_b HP.out, hb2.trans (k9.mono hb2.size)⟩
end
end Go.Proofs.YtjhknafajfpldaaDoor
