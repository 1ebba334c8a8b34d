/- Contracts of the code's Defends and DefendedBy. Condition: the library's variable errors.errorType reads as the program's text lays it; the slices have at most 2^40 elements. -/
import Derived.Test.YteoaogjoapblhaaDoorIsSetC
namespace Go.Proofs.YteoaogjoapblhaaDoor
open Go.ChangeShapes Go.WideShapes Go.ChangeAt Go.RowKit
set_option maxRecDepth 100000
theorem def_code {N : Int} {X : List (List Int)} {S : List Int} (hs : setB N X S = true) (c : Int) : (inr c 0 9 && (dB (rn N X) (rf N X) (bS S)).testBit c.toNat) = defB N X S c := by
  have h := setB_g hs
  obtain ⟨n, rfl, hn, hp, _⟩ := gB_ok h
  rw [rn_eq h]
  by_cases hc : inr c 0 9 = true
  · have h' : 0 ≤ c ∧ c ≤ 9 := by simpa [inr] using hc
    obtain ⟨j, rfl⟩ := Int.eq_ofNat_of_zero_le h'.1
    rw [hc, Bool.true_and, Int.toNat_natCast, Bool.eq_iff_iff, dB_mem h hp hn hs, defL_mem h hp]
  · rw [show inr c 0 9 = false by simpa using hc, Bool.false_and]
    symm
    rw [← Bool.not_eq_true, defB_iff h hp]
    rintro ⟨_, ⟨h1, h2⟩, _⟩
    exact hc (inr_t (by omega) (by omega))
section
variable {w : World} {A A' : Option Addr} {n c n' c' : Nat} {N : Int} {X : List (List Int)} {S : List Int} (hE : w.cell? ⟨0, 0, none⟩ = some asE) (hl : Hid (X.length = n)) (hn : n ≤ 1099511627776) (hr : RdSS w w.heap.size A X) (hl' : Hid (S.length = n')) (hn' : n' ≤ 1099511627776) (hr' : Rd w w.heap.size A' (ivs S))
include hE hl hn hr hl' hn' hr'
set_option maxHeartbeats 2000000 in
theorem impDefends_any {a : Int} : Calls Tryd.prog 15 #[.agg #[.int .i64 N, .slice A n c], .slice A' n' c', .int .i64 a] w (Tells (defB N X S a) w) := by
  obtain ⟨W1, hW, bx1, hb1⟩ := one_graph w #[Value.int IntKind.i64 N, Value.slice A n c] 26
  have HR := Lib.hid ((hr.below hb1).more hb1.size)
  have HS := Lib.hid ((hr'.below hb1).more hb1.size)
  have hE1 := asE_new hE (show Below w.heap.size w W1 from hb1)
  have hW' := hW.symm
  obtain ⟨C0, C1⟩ := bx1.two
  clear hW hr hr' hE
  go_enter Tryd.func15, Tryd.ntmps15
  go_wp2_with fail
  clear hW'
  refine (impIsSet_any (N := N) (X := X) (S := S) (c := c) (c' := c') hE1 hl hn HR.out hl' hn' HS.out).mono ?_
  rintro e w3 ⟨rfl, hb3⟩
  have hb4 := hb1.trans (hb3.mono hb1.size)
  obtain ⟨D0, D1⟩ := (bx1.new hb3).two
  by_cases hs : setB N X S = true
  · have HA := Lib.hid (def_code hs a)
    have hR3 := (HR.out.below hb3).more hb3.size
    have hS3 := (HS.out.below hb3).more hb3.size
    rw [hs]
    have hbl : bS S < 65536 := Nat.lt_trans (bS_lt S) (by decide)
    have hdl : dB (rn N X) (rf N X) (bS S) < 65536 := Nat.lt_trans (dB_lt (rn_le N X).2 _ _) (by decide)
    clear hs C0 C1
    go_wp2_with fail
    refine (rowsOf_any hl hn hR3).mono ?_
    rintro e w4 ⟨rfl, hb5⟩
    have hb6 := hb4.trans (hb5.mono hb4.size)
    go_wp2_with fail
    refine (bitsOf_any hl' hn' (hS3.below hb5)).mono ?_
    rintro e w5 ⟨rfl, rfl⟩
    go_wp2_with fail
    refine (defBits_any (n := rn N X) (rn_le N X).1 (rn_le N X).2 (rf_lt N X) hbl).mono ?_
    rintro e w5 ⟨rfl, hb7⟩
    have hb8 := hb6.trans (hb7.mono hb6.size)
    generalize dB (rn N X) (rf N X) (bS S) = d at *
    go_wp2_with fail
    refine (has_any hdl).mono ?_
    rintro e w6 ⟨rfl, rfl⟩
    rw [HA.out]
    go_wp2_with fail
    go_ret
    exact ⟨rfl, hb8⟩
  · have hs' : setB N X S = false := by simpa using hs
    have HB := Lib.hid (show defB N X S a = false by unfold defB; rw [hs', Bool.false_and, Bool.false_and])
    rw [hs']
    clear hs hs'
    go_wp2_with fail
    go_ret
    exact ⟨ret_b HB.out.symm, hb4⟩
set_option maxHeartbeats 2000000 in
theorem impDefendedBy_any : Calls Tryd.prog 11 #[.agg #[.int .i64 N, .slice A n c], .slice A' n' c'] w (Fresh 3 (ivs (defL N X S)) w) := by
  obtain ⟨W1, hW, bx1, hb1⟩ := one_graph w #[Value.int IntKind.i64 N, Value.slice A n c] 26
  have HR := Lib.hid ((hr.below hb1).more hb1.size)
  have HS := Lib.hid ((hr'.below hb1).more hb1.size)
  have hE1 := asE_new hE (show Below w.heap.size w W1 from hb1)
  have hW' := hW.symm
  obtain ⟨C0, C1⟩ := bx1.two
  clear hW hr hr' hE
  go_enter Tryd.func11, Tryd.ntmps11
  go_wp2_with fail
  clear hW'
  refine (impIsSet_any (N := N) (X := X) (S := S) (c := c) (c' := c') hE1 hl hn HR.out hl' hn' HS.out).mono ?_
  rintro e w3 ⟨rfl, hb3⟩
  have hb4 := hb1.trans (hb3.mono hb1.size)
  obtain ⟨D0, D1⟩ := (bx1.new hb3).two
  by_cases hs : setB N X S = true
  · have HA := Lib.hid (dB_code hs)
    have hR3 := (HR.out.below hb3).more hb3.size
    have hS3 := (HS.out.below hb3).more hb3.size
    rw [hs]
    have hbl : bS S < 65536 := Nat.lt_trans (bS_lt S) (by decide)
    have hdl : dB (rn N X) (rf N X) (bS S) < 65536 := Nat.lt_trans (dB_lt (rn_le N X).2 _ _) (by decide)
    clear hs C0 C1
    go_wp2_with fail
    refine (rowsOf_any hl hn hR3).mono ?_
    rintro e w4 ⟨rfl, hb5⟩
    have hb6 := hb4.trans (hb5.mono hb4.size)
    go_wp2_with fail
    refine (bitsOf_any hl' hn' (hS3.below hb5)).mono ?_
    rintro e w5 ⟨rfl, rfl⟩
    go_wp2_with fail
    refine (defBits_any (n := rn N X) (rn_le N X).1 (rn_le N X).2 (rf_lt N X) hbl).mono ?_
    rintro e w5 ⟨rfl, hb7⟩
    have hb8 := hb6.trans (hb7.mono hb6.size)
    generalize dB (rn N X) (rf N X) (bS S) = d at *
    go_wp2_with fail
    refine (list_any hdl).mono ?_
    rintro e w6 ⟨v, rfl, hrow, hb9⟩
    go_wp2_with fail
    go_ret
    exact ⟨v, rfl, by rw [← HA.out]; exact hrow.wide hb8.size (Nat.le_refl _), hb8.trans (hb9.mono hb8.size)⟩
  · have hs' : setB N X S = false := by simpa using hs
    have HB := Lib.hid (show defL N X S = [] by unfold defL; rw [hs']; rfl)
    have hrow := Row.made (w := w3) w.heap.size #[] 0 3 hb4.size rfl (Nat.zero_le _)
    rw [hs']
    clear hs hs'
    go_wp2_with fail
    go_ret
    exact ⟨_, rfl, by rw [HB.out]; exact hrow.wide (Nat.le_refl _) (by simp), hb4.alloc hb4.size _⟩
end
end Go.Proofs.YteoaogjoapblhaaDoor
