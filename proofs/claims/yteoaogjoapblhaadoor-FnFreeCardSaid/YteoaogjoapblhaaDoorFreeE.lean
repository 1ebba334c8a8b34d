/- Contract of the code's IsStable. No conditions but that the slices have at most 2^40 elements. -/
import Derived.Test.YteoaogjoapblhaaDoorFreeD
namespace Go.Proofs.YteoaogjoapblhaaDoor
open Go.ChangeShapes Go.WideShapes Go.ChangeAt Go.RowKit
set_option maxRecDepth 100000
section
variable {w : World} {A A' : Option Addr} {n c n' c' : Nat} {N : Int} {X : List (List Int)} {S : List Int} (hl : Hid (X.length = n)) (hn : n ≤ 1099511627776) (hr : RdSS w w.heap.size A X) (hl' : Hid (S.length = n')) (hn' : n' ≤ 1099511627776) (hr' : Rd w w.heap.size A' (ivs S))
include hl hn hr hl' hn' hr'
set_option maxHeartbeats 4000000 in
theorem impIsStable_any : Calls Tryd.prog 8 #[.agg #[.int .i64 N, .slice A n c], .slice A' n' c'] w (Tells (stabB N X S) w) := by
  obtain ⟨W1, hW, bx1, hb1⟩ := one_graph w #[Value.int IntKind.i64 N, Value.slice A n c] 26
  have hs1 : W1.heap.size = w.heap.size + 1 := by rw [hW]; simp
  have HR := Lib.hid ((hr.below hb1).more hb1.size)
  have HS := Lib.hid ((hr'.below hb1).more hb1.size)
  have hW' := hW.symm
  obtain ⟨C0, C1⟩ := bx1.two
  clear hW hr hr'
  go_enter Tryd.func8, Tryd.ntmps8
  go_wp2_with fail
  clear hW'
  refine (rowsOf_any hl hn HR.out).mono ?_
  rintro e w2 ⟨rfl, hb2⟩
  have hb3 := hb1.trans (hb2.mono hb1.size)
  have hR3 := (HR.out.below hb2).more hb2.size
  have hS3 := (HS.out.below hb2).more hb2.size
  have bx3 := bx1.new hb2
  have HA := Lib.hid (show freeB N X S = true → ((bS S ||| hB (rf N X) (bS S) 10) == alB (rn N X)) = stabB N X S from stab_code)
  obtain ⟨r0, r1⟩ := rn_le N X
  have hfl := rf_lt N X
  generalize rf N X = f at hfl HA ⊢
  generalize rn N X = m at r0 r1 HA ⊢
  go_wp2_with fail
  refine (bitsOf_any hl' hn' hS3).mono ?_
  rintro e w3 ⟨rfl, rfl⟩
  have hbl : bS S < 65536 := Nat.lt_trans (bS_lt S) (by decide)
  have HO := Lib.hid (u16_or_nat _ _ hbl (hB_lt hfl (bS S) 10))
  generalize bS S = x at *
  have hb4 : Below w.heap.size w (w2.alloc (Obj.cells (arC 0 fun _ => 0) 41)) := hb3.alloc hb3.size _
  have bx4 := Bx.made w2 41 (arC 0 fun _ => 0)
  have bg4 := bx3.new ((Below.refl w2.heap.size w2).alloc (Nat.le_refl _) (Obj.cells (arC 0 fun _ => 0) 41))
  have rr4 := hR3.below ((Below.refl w2.heap.size w2).alloc (Nat.le_refl _) (Obj.cells (arC 0 fun _ => 0) 41))
  have rs4 := hS3.below ((Below.refl w2.heap.size w2).alloc (Nat.le_refl _) (Obj.cells (arC 0 fun _ => 0) 41))
  obtain ⟨W4, hW4⟩ : ∃ u : World, u = w2.alloc (Obj.cells (arC 0 fun _ => 0) 41) := ⟨_, rfl⟩
  have hs4 : W4.heap.size = w2.heap.size + 1 := by rw [hW4]; simp
  rw [← hW4] at hb4 bx4 bg4 rr4 rs4
  rw [← arC_lit 0] at hW4
  have hW4' := hW4.symm
  have hsz2 := hb2.size
  have o5 := setRow_out W4 w2.heap.size (arC m f) (Nat.le_refl _) (Nat.lt_succ_self _)
  have hb5 : Below w.heap.size w _ := hb4.trans (o5.below (by have := hb3.size; omega) (by have := hb4.size; omega))
  have bx5 := bx4.setRow (arC m f)
  have bg5 := bg4.out o5 (.inl (by omega))
  have rr5 := (rr4.below (o5.below (Nat.le_refl _) (by omega))).more (show w2.heap.size ≤ (W4.setRow w2.heap.size (arC m f)).heap.size by have := o5.size; omega)
  have rs5 := (rs4.below (o5.below (Nat.le_refl _) (by omega))).more (show w2.heap.size ≤ (W4.setRow w2.heap.size (arC m f)).heap.size by have := o5.size; omega)
  obtain ⟨W5, hW5⟩ : ∃ u : World, u = W4.setRow w2.heap.size (arC m f) := ⟨_, rfl⟩
  rw [← hW5] at o5 hb5 bx5 bg5 rr5 rs5
  have HX := Lib.hid hW5.symm
  have hs5 := o5.size
  clear hW4 hW5 o5 hR3 hS3 bx3 bg4 rr4 rs4 hb4 C0 C1
  go_wp2_with (first | (refine stAR (n := m) (f := f) rfl (.tmp 5) (.tmp 8) rfl bx4 rfl rfl rfl ?_; rw [HX.out]))
  generalize w2.heap.size = g at *
  clear bx4 hW4' HX
  by_cases hf : freeB N X S = true
  · have HF := Lib.hid hf
    have HB := Lib.hid (HA.out hf)
    clear hf HA
    go_region_held3 (fun w' => Below W5.heap.size W5 w' ∧ w'.cell? ⟨w.heap.size, 0, none⟩ = some (.int .i64 N) ∧ w'.cell? ⟨w.heap.size, 1, none⟩ = some (.slice A n c) ∧ w'.cell? ⟨g, 0, none⟩ = some (.int .i64 m) ∧ w'.cell? ⟨g, 1, none⟩ = some (.int .u16 (f 0 : Nat)) ∧ w'.cell? ⟨g, 2, none⟩ = some (.int .u16 (f 1 : Nat)) ∧ w'.cell? ⟨g, 3, none⟩ = some (.int .u16 (f 2 : Nat)) ∧ w'.cell? ⟨g, 4, none⟩ = some (.int .u16 (f 3 : Nat)) ∧ w'.cell? ⟨g, 5, none⟩ = some (.int .u16 (f 4 : Nat)) ∧ w'.cell? ⟨g, 6, none⟩ = some (.int .u16 (f 5 : Nat)) ∧ w'.cell? ⟨g, 7, none⟩ = some (.int .u16 (f 6 : Nat)) ∧ w'.cell? ⟨g, 8, none⟩ = some (.int .u16 (f 7 : Nat)) ∧ w'.cell? ⟨g, 9, none⟩ = some (.int .u16 (f 8 : Nat)) ∧ w'.cell? ⟨g, 10, none⟩ = some (.int .u16 (f 9 : Nat))) (first | exact stab_new bg5 bx5 (Below.refl _ _) | exact stab_new bg5 bx5 ((Below.refl _ _).drew) | assumption | exact stab_new bg5 bx5 k9 | exact stab_new bg5 bx5 (Below.drew k9) | exact stab_new bg5 bx5 (Below.drew (‹Below W5.heap.size W5 _ ∧ _›).1))
      (first
      | (go_at_call 9; refine (impIsFree_any (N := N) (X := X) (S := S) (c := c) (c' := c') hl hn (rdSS_new rr5 (‹Below W5.heap.size W5 _ ∧ _›).1) hl' hn' (rd_new rs5 (‹Below W5.heap.size W5 _ ∧ _›).1)).mono ?_; rintro e u9 ⟨he, hb9⟩; rw [HF.out] at he; subst he; have k9 := trans_new (‹Below W5.heap.size W5 _ ∧ _›).1 hb9)
      | (go_at_call 23; refine (all_any (n := m) (f := f) r0 r1).mono ?_; rintro e u9 ⟨rfl, hb9⟩; have k9 := trans_new (‹Below W5.heap.size W5 _ ∧ _›).1 hb9)
      | (go_at_call 22; refine (hitBits_any (n := m) (f := f) (x := x) hfl hbl).mono ?_; rintro e u9 ⟨rfl, hb9⟩; have k9 := trans_new (‹Below W5.heap.size W5 _ ∧ _›).1 hb9))
    go_wp2_with fail
    go_ret
    refine ⟨ret_b ?_, hb5.trans (k9.mono hb5.size)⟩
    rw [← HB.out, HO.out, cast_beq]
  · have hf' : freeB N X S = false := by simpa using hf
    have HF := Lib.hid hf'
    have HB := Lib.hid (show stabB N X S = false by unfold stabB; rw [hf', Bool.and_false])
    clear hf hf' HA
    have HRD := Lib.hid (rdSS_new rr5 ((Below.refl _ W5).drew))
    have HSD := Lib.hid (rd_new rs5 ((Below.refl _ W5).drew))
    obtain ⟨D0, D1⟩ := bg5.two
    first
      | go_region_law (first | (go_simp; go_at_call 9; refine (impIsFree_any (N := N) (X := X) (S := S) (c := c) (c' := c') hl hn (by with_reducible exact HRD.out) hl' hn' (by with_reducible exact HSD.out)).mono ?_; rintro e u9 ⟨he, hb9⟩; rw [HF.out] at he; subst he))
      | fail
    all_goals
      go_wp2_with fail
      go_ret
      exact ⟨ret_b HB.out.symm, hb5.trans (trans_new ((Below.refl _ W5).drew) hb9 |>.mono hb5.size)⟩
end
end Go.Proofs.YteoaogjoapblhaaDoor
