/- Contract of the code's WithClaim. Conditions: the library's variable errors.errorType reads as the program's text lays it; the slices have at most 2^40 elements. -/
import Derived.Test.YtjhknafajfpldaaDoorMg27
import Derived.Test.YtjhknafajfpldaaDoorIsSetC
import Derived.Test.YtjhknafajfpldaaDoorMg11
import Derived.Test.YtjhknafajfpldaaDoorMg22
namespace Go.Proofs.YtjhknafajfpldaaDoor
open Go.ChangeShapes Go.WideShapes Go.ChangeAt Go.RowKit
set_option maxRecDepth 100000
theorem arC_put1 (n : Int) (f : Nat → Nat) {a : Nat} (ha : a < 10) (x : Nat) : (arC n f).setIfInBounds (1 + a) (.int .u16 (x : Nat)) = arC n (putR f a x) := by
  rcases lt10 ha with rfl | rfl | rfl | rfl | rfl | rfl | rfl | rfl | rfl | rfl <;> rfl
theorem arC_n (n m : Int) (f : Nat → Nat) : (arC n f).setIfInBounds 0 (.int .i64 m) = arC m f := rfl
section
variable {w : World} {A A' : Option Addr} {n c n' c' : Nat} {N : Int} {X : List (List Int)} {S : List Int}
set_option maxHeartbeats 8000000 in
theorem impWithClaim_any (hE : w.cell? ⟨0, 0, none⟩ = some asE) (hl : Hid (X.length = n)) (hn : n ≤ 1099511627776) (hs : Hid (∀ x ∈ X, x.length ≤ 1099511627776)) (hr : RdSS w w.heap.size A X) (hl' : Hid (S.length = n')) (hn' : n' ≤ 1099511627776) (hr' : Rd w w.heap.size A' (ivs S)) :
    Calls Tryd.prog 6 #[.agg #[.int .i64 N, .slice A n c], .slice A' n' c'] w (FreshGB (wtM N X S) (wtY N X S) (wthB N X S) w) := by
  obtain ⟨W2, hW2, bx1, bx2, hb2, hs2⟩ := two_graphs w #[Value.int IntKind.i64 N, Value.slice A n c] #[Value.int IntKind.i64 0, Value.slice none 0 0] 26
  have HR := Lib.hid (hr.below hb2)
  have HR' := Lib.hid (hr'.below hb2)
  have HE := Lib.hid (asE_new hE hb2)
  obtain ⟨C0, C1⟩ := bx1.two
  have hW2' := hW2.symm
  have HS2 := Lib.hid hs2
  have HM := Lib.hid (show w.heap.size + 2 ≤ W2.heap.size by rw [HS2.out]; exact Nat.le_refl _)
  have HI := Lib.hid (wth_iff N X S)
  clear hW2 hr hr' hs2 hE
  by_cases hset : setB N X S = true
  case neg =>
    have HB := Lib.hid (show setB N X S = false by simpa using hset)
    have HCf := Lib.hid (show wthB N X S = false by rw [HI.out, HB.out]; rfl)
    have HLx := Lib.hid (show wtY N X S = X by unfold wtY; rw [HCf.out]; rfl)
    have HLm := Lib.hid (show wtM N X S = N by unfold wtM; rw [HCf.out]; rfl)
    clear hset
    go_enter Tryd.func6, Tryd.ntmps6
    go_wp2_with fail
    refine (impIsSet_any (N := N) (S := S) HE.out hl hn (HR.out.more hb2.size) hl' hn' (HR'.out.more hb2.size)).mono ?_
    rintro e w3 ⟨rfl, hb3⟩
    rw [HB.out]
    have hb4 := hb2.trans (hb3.mono hb2.size)
    obtain ⟨D0, D1⟩ := (bx1.new hb3).two
    have bx23 := bx2.new hb3
    go_wp2_with fail
    refine (impCopy_any hl hn hs ((HR.out.below (hb3.mono hb2.size)).more hb4.size)).mono ?_
    rintro e w6 ⟨v, rfl, hown, hb7⟩
    have bx26 := bx23.new hb7
    have hv1 := hown.one
    have hk := keep_result #[.int .i64 N, v] hown (hb4.trans (hb7.mono hb4.size)) (Nat.le_trans HM.out hb3.size) (Nat.le_trans HM.out (Nat.le_trans hb3.size hb7.size))
    go_wp2_with (first | (refine stGR rfl (.tmp 4) (.tmp 17) rfl bx26 rfl hv1 rfl rfl ?_))
    refine bodyPost_ret (resGB rfl (bx26.setRow _) rfl rfl rfl) rfl ⟨v, by rw [HCf.out, HLm.out]; rfl, by rw [HLx.out]; exact hk.1, hk.2⟩
  case pos =>
    have HB := Lib.hid hset
    obtain ⟨m, rfl, hm, _⟩ := gB_ok (setB_gr hset)
    by_cases h10 : m = 10
    case pos =>
      have he10 : ((m : Int) == 10) = true := by simp; omega
      have HCf := Lib.hid (show wthB (m : Int) X S = false by rw [HI.out, HB.out]; simp; omega)
      have HLx := Lib.hid (show wtY (m : Int) X S = X by unfold wtY; rw [HCf.out]; rfl)
      have HLm := Lib.hid (show wtM (m : Int) X S = (m : Int) by unfold wtM; rw [HCf.out]; rfl)
      clear hset h10
      go_enter Tryd.func6, Tryd.ntmps6
      go_wp2_with fail
      refine (impIsSet_any (N := (m : Int)) (S := S) HE.out hl hn (HR.out.more hb2.size) hl' hn' (HR'.out.more hb2.size)).mono ?_
      rintro e w3 ⟨rfl, hb3⟩
      rw [HB.out]
      have hb4 := hb2.trans (hb3.mono hb2.size)
      obtain ⟨D0, D1⟩ := (bx1.new hb3).two
      have bx23 := bx2.new hb3
      go_wp2_with fail
      refine (impCopy_any hl hn hs ((HR.out.below (hb3.mono hb2.size)).more hb4.size)).mono ?_
      rintro e w6 ⟨v, rfl, hown, hb7⟩
      have bx26 := bx23.new hb7
      have hv1 := hown.one
      have hk := keep_result #[.int .i64 (m : Int), v] hown (hb4.trans (hb7.mono hb4.size)) (Nat.le_trans HM.out hb3.size) (Nat.le_trans HM.out (Nat.le_trans hb3.size hb7.size))
      go_wp2_with (first | (refine stGR rfl (.tmp 4) (.tmp 17) rfl bx26 rfl hv1 rfl rfl ?_))
      refine bodyPost_ret (resGB rfl (bx26.setRow _) rfl rfl rfl) rfl ⟨v, by rw [HCf.out, HLm.out]; rfl, by rw [HLx.out]; exact hk.1, hk.2⟩
    case neg =>
      have h9 : m ≤ 9 := by omega
      have HCf := Lib.hid (show wthB m X S = true by rw [HI.out, HB.out]; simp; omega)
      have HLx := Lib.hid (show wtY m X S = wthX m X S by unfold wtY; rw [HCf.out]; rfl)
      have HLm := Lib.hid (show wtM m X S = ((m + 1 : Nat) : Int) by unfold wtM; rw [HCf.out]; simp)
      have HC := Lib.hid (with_code hset)
      have HRN := Lib.hid (rn_eq (setB_gr hset))
      have hne : ((m : Int) == 10) = false := by simp; omega
      clear hset h10
      go_enter Tryd.func6, Tryd.ntmps6
      go_wp2_with fail
      refine (impIsSet_any (N := m) (S := S) HE.out hl hn (HR.out.more hb2.size) hl' hn' (HR'.out.more hb2.size)).mono ?_
      rintro e w3 ⟨rfl, hb3⟩
      rw [HB.out]
      have hb4 := hb2.trans (hb3.mono hb2.size)
      have bx13 := bx1.new hb3
      have bx23 := bx2.new hb3
      obtain ⟨D0, D1⟩ := bx13.two
      have HR3 := Lib.hid ((HR.out.below (hb3.mono hb2.size)).more hb4.size)
      have HR3' := Lib.hid ((HR'.out.below (hb3.mono hb2.size)).more hb4.size)
      have HM3 := Lib.hid (Nat.le_trans HM.out hb3.size)
      clear hW2' C0 C1
      go_wp2_with fail
      refine (rowsOf_any (N := m) (X := X) (c := c) hl hn HR3.out).mono ?_
      rintro e w4 ⟨rfl, hb5⟩
      rw [HRN.out]
      have hfl := rf_lt m X
      obtain ⟨f, hf⟩ : ∃ f, f = rf m X := ⟨_, rfl⟩
      rw [← hf] at hfl HC ⊢
      clear hf
      have bx24 := bx23.new hb5
      have hb6 := hb4.trans (hb5.mono hb4.size)
      obtain ⟨W5, W6, hW5, hW6, bx5, bx6, hb7, hs7⟩ := new_rows w4 m f
      rw [← arC_lit 0] at hW5
      have HX := Lib.hid hW6
      have bx26 := bx24.new hb7
      have hb8 := hb6.trans (hb7.mono hb6.size)
      have hrd6 : Rd W6 w4.heap.size A' (ivs S) := ((HR3'.out.below hb5).more hb5.size).below hb7
      have HR6 : Hid (Rd W6.drew w4.heap.size A' (ivs S)) := Lib.hid (hrd6.drewN 1)
      clear hrd6
      have E0 := bx6.at_ (k := 0) (v := .int .i64 m) rfl
      have F1 := bx6.free (1 + m)
      have F0 := bx6.free 0
      have E1 := bx6.at_ (arC_at m f (a := m) (by omega))
      have HU := Lib.hid (Nat.lt_trans (bS_lt S) (show 2 ^ 10 < 65536 by decide))
      have i0 : (0 : Int) ≤ (m : Int) := by omega
      have i1 : (m : Int) < 10 := by omega
      have HM6 := Lib.hid (show w.heap.size + 2 ≤ w4.heap.size from Nat.le_trans HM3.out hb5.size)
      clear hW6
      go_wp2_with (first | (refine stAR (n := m) (f := f) rfl (.tmp 6) (.tmp 19) rfl bx5 rfl rfl rfl ?_; rw [HX.out]))
      simp only [Act.put]
      go_region_law (first | (go_simp; go_at_call 24; (refine (bitsOf_any hl' hn' HR6.out).mono ?_); rintro e u9 ⟨rfl, rfl⟩))
      all_goals
        have bx7 := bx6.set (1 + m) (.int .u16 (bS S : Nat))
        rw [arC_put1 m f (by omega)] at bx7
        have hb9 := (hb8.setCell (p := ⟨w4.heap.size, 1 + m, none⟩) (by show w.heap.size ≤ w4.heap.size; have := HM6.out; omega) (.int .u16 (bS S : Nat))).drew
        have bx27 := (bx26.far (p := ⟨w4.heap.size, 1 + m, none⟩) (by show w.heap.size + 1 ≠ w4.heap.size; have := HM6.out; omega) (.int .u16 (bS S : Nat))).drew_
        have bx7' := bx7.drew_
        have hz9 : w.heap.size + 2 ≤ (W6.setCell ⟨w4.heap.size, 1 + m, none⟩ (.int .u16 (bS S : Nat))).drew.heap.size := by have := HM6.out; have := hb7.size; show w.heap.size + 2 ≤ (W6.setCell ⟨w4.heap.size, 1 + m, none⟩ (.int .u16 (bS S : Nat))).heap.size; simp; omega
        obtain ⟨W7, hW7⟩ : ∃ u : World, u = (W6.setCell ⟨w4.heap.size, 1 + m, none⟩ (.int .u16 (bS S : Nat))).drew := ⟨_, rfl⟩
        rw [← hW7] at hb9 bx27 bx7' hz9 ⊢
        have G0 := bx7'.at_ (k := 0) (v := .int .i64 m) rfl
        have G1 := bx7'.free 0
        have bx8 := bx7'.set 0 (.int .i64 ((m : Int) + 1))
        rw [arC_n] at bx8
        have hb10 := hb9.setCell (p := ⟨w4.heap.size, 0, none⟩) (by show w.heap.size ≤ w4.heap.size; have := HM6.out; omega) (.int .i64 ((m : Int) + 1))
        have bx28 := bx27.far (p := ⟨w4.heap.size, 0, none⟩) (by show w.heap.size + 1 ≠ w4.heap.size; have := HM6.out; omega) (.int .i64 ((m : Int) + 1))
        have hz10 : w.heap.size + 2 ≤ (W7.setCell ⟨w4.heap.size, 0, none⟩ (.int .i64 ((m : Int) + 1))).heap.size := by simp; exact hz9
        have HPL := Lib.hid (putR_lt (n := m) hfl HU.out)
        clear hW7 bx6 bx7 E0 E1 F0 F1 bx26 hb8 hb9 bx27 bx7' D0 D1
        generalize putR f m (bS S) = F at bx8 HC HPL
        go_wp2_with (first | (refine ldAR rfl (.tmp 6) rfl bx8 rfl rfl ?_))
        rw [show (m : Int) + 1 = ((m + 1 : Nat) : Int) by omega] at bx28 hb10 hz10 ⊢
        refine (impGraph_any (n := m + 1) (by omega) HPL.out).mono ?_
        rintro e w9 ⟨v, rfl, hown, hb11⟩
        have bx29 := bx28.new hb11
        have hv1 := hown.one
        have hb12 := hb10.trans (hb11.mono hb10.size)
        have hk := keep_result #[.int .i64 ((m + 1 : Nat) : Int), v] hown hb12 hz10 (Nat.le_trans hz10 hb11.size)
        go_wp2_with (first | (refine stGR rfl (.tmp 4) (.tmp 31) rfl bx29 rfl hv1 rfl rfl ?_))
        refine bodyPost_ret (resGB rfl (bx29.setRow _) rfl rfl rfl) rfl ⟨v, by rw [HCf.out, HLm.out]; rfl, by rw [HLx.out, ← HC.out]; exact hk.1, hk.2⟩
end
end Go.Proofs.YtjhknafajfpldaaDoor
