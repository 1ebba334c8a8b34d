/- Contract of the code's IsLine. Conditions: the slices have at most 2^40 elements. -/
import Derived.Test.YtobghogkflgpeaaLineC
import Derived.Test.YtobghogkflgpeaaWho
namespace Go.Proofs.Ytobghogkflgpeaa
open Go.ChangeShapes Go.WideShapes Go.ChangeAt Go.RowKit
set_option maxRecDepth 100000
section
variable {w : World} {A A' : Option Addr} {n c n' c' : Nat} {N : Int} {X : List (List Int)} {L : List Int}
set_option maxHeartbeats 4000000 in
theorem isLine_D (hX : gB N X = true) (hl : Hid (X.length = n)) (hn : n ≤ 1099511627776) (hr : RdSS w w.heap.size A X) (hl' : Hid (L.length = n')) (hn' : n' ≤ 1099511627776) (hr' : Rd w w.heap.size A' (ivs L)) (h0 : 0 < n') (hi : inr (L.getD 0 0) 0 (N - 1) = true) (hnc : n' ≤ c') :
    Calls Try.prog 24 #[.agg #[.int .i64 N, .slice A n c], .slice A' n' c'] w (Tells (lineB N X L) w) := by
  have hkz : 0 < L.length := by rw [hl'.out]; exact h0
  have HLB := Lib.hid (fun (i : Nat) (h : i + 1 < L.length) (hd : dA N X (L.getD (i + 1) 0) (L.getD i 0) = false) => line_bad (N := N) (X := X) (L := L) (i := i + 1) h (by unfold stpB lnkB; rw [Nat.add_sub_cancel, hd]; simp))
  have HLC := Lib.hid (fun h => line_code (N := N) (X := X) (L := L) hX hkz hi h)
  have hrv : RdSS w w.heap.size A X := hr
  have hb1 := alloc_new w (Obj.cells #[Value.int IntKind.i64 N, Value.slice A n c] 27)
  have bx1 := Bx.made w 27 #[Value.int IntKind.i64 N, Value.slice A n c]
  obtain ⟨W1, hW⟩ : ∃ u : World, u = w.alloc (Obj.cells #[Value.int IntKind.i64 N, Value.slice A n c] 27) := ⟨_, rfl⟩
  rw [← hW] at hb1 bx1
  have hW' := hW.symm
  have HR := Lib.hid ((hr.below hb1).more hb1.size)
  have HX := Lib.hid hX
  obtain ⟨m, rfl, hm, _⟩ := gB_ok hX
  obtain ⟨ad, rfl, hab, hc⟩ := ivs_at (hr'.below hb1) hkz
  rw [getI_at hkz] at hi
  rw [show ad.add 0 = ad by simp [Addr.add]] at hc
  obtain ⟨x, hx⟩ : ∃ x, x = L[0] := ⟨_, rfl⟩
  rw [← hx] at hc hi
  have HI := Lib.hid hi
  have KE := fun (w' : World) (k : Below W1.heap.size W1 w') => show Below W1.heap.size W1 w' ∧ w'.cell? ⟨w.heap.size, 0, none⟩ = some (.int .i64 m) ∧ w'.cell? ⟨w.heap.size, 1, none⟩ = some (.slice A n c) ∧ w'.cell? ad = some (.int .i64 x) from ⟨k, (bx_two_new bx1 k).2.1, (bx_two_new bx1 k).2.2, (k.cell (p := ad) (by have := hb1.size; omega)).trans hc⟩
  obtain ⟨C0, C1⟩ := bx1.two
  have i0' : (0 : Int) < (n' : Int) := by omega
  have hne : ((n' : Int) == 0) = false := by simpa using (show ¬ n' = 0 by omega)
  clear hW hr hX hi hx
  go_enter Try.func24, Try.ntmps24
  go_wp2_with fail
  go_region_held3 (fun w' => Below W1.heap.size W1 w' ∧ w'.cell? ⟨w.heap.size, 0, none⟩ = some (.int .i64 m) ∧ w'.cell? ⟨w.heap.size, 1, none⟩ = some (.slice A n c) ∧ w'.cell? ad = some (.int .i64 x)) (first | assumption | with_reducible exact KE _ (Below.refl _ _) | with_reducible exact KE _ (Below.refl _ _).drew | with_reducible exact KE _ k9 | with_reducible exact KE _ (Below.drew k9))
    (first
    | (go_at_call 42; (with_reducible refine (impIsGraph_any (N := m) (X := X) (c := c) hl hn ((HR.out.below (‹Below W1.heap.size W1 _ ∧ _›).1).more (‹Below W1.heap.size W1 _ ∧ _›).1.size)).mono ?_); rintro e u9 ⟨he, hb9⟩; rw [HX.out] at he; subst he; have k9 := trans_new (‹Below W1.heap.size W1 _ ∧ _›).1 hb9)
    | (go_at_call 43; (with_reducible refine (isClaim_any (n := m) (c := x) (by omega) (by omega)).mono ?_); rintro e u9 ⟨he, rfl⟩; rw [HI.out] at he; subst he; have k9 := (‹Below W1.heap.size W1 _ ∧ _›).1))
  have k1 := k9
  clear k9 KE
  go_wp2_with fail
  refine (rowsOf_any (N := m) (X := X) (c := c) hl hn ((HR.out.below k1).more k1.size)).mono ?_
  rintro e w3 ⟨rfl, hb3⟩
  have k3 := trans_new k1 hb3
  have r0 := (rn_le m X).1
  have r1 := (rn_le m X).2
  have HDC := Lib.hid (fun a b => dA_code (m : Int) X a b)
  have HVL := Lib.hid (fun a => vic_lt (m : Int) X a)
  obtain ⟨rN, hrN⟩ : ∃ z, z = rn m X := ⟨_, rfl⟩
  obtain ⟨f, hf⟩ : ∃ f, f = rf m X := ⟨_, rfl⟩
  rw [← hrN] at r0 r1 HDC HVL ⊢
  rw [← hf] at HDC HVL ⊢
  clear hrN hf
  obtain ⟨W4, W5, hW4, hW5, bx4, bx5, hb5, hs5⟩ := new_rows w3 rN f
  rw [← arC_lit 0] at hW4
  have HX5 := Lib.hid hW5
  have k5 := trans_new k3 hb5
  have kw := hb1.trans (k5.mono hb1.size)
  obtain ⟨i0, hin, hy0, hy1, hy2⟩ := info_parts IntS_info
  have zz : ∀ w, (Go.sizeOf 3).run Try.prog w = .ok 1 w := fun w => by simp [sizeOf, typeInfo, hin, hy1]
  have hsl := fun (w : World) => run_from w 31 3 Try.underlying31 zz (some ad) (n := n') (c := c') (k := 1) (by omega) hnc
  obtain ⟨At, hAt⟩ : ∃ a, a = tlA (some ad) 1 c' := ⟨_, rfl⟩
  have HRT : Hid (Rd w w.heap.size At ((ivs L).drop 1)) := Lib.hid (by rw [hAt]; exact Rd.tl hr' (by rw [ivs_len, hl'.out]; exact hnc))
  rw [← hAt] at hsl
  rw [show ((1 : Nat) : Int) = 1 from rfl] at hsl
  obtain ⟨p, rfl⟩ : ∃ p, n' = p + 1 := ⟨n' - 1, by omega⟩
  rw [Nat.add_sub_cancel] at hsl
  have HL' := Lib.hid hr'
  clear hAt hs5 hW5 hr' hrv
  go_wp2_with (refine stAR (n := rN) (f := f) rfl (.tmp 5) (.tmp 27) rfl bx4 rfl rfl rfl ?_; rw [HX5.out])
  go_loopw [31] (fun i wr => ∃ k : Nat, k ≤ p ∧ i = .int .i64 k ∧ Below W5.heap.size W5 wr ∧ Hid (∀ q < k, dA m X (L.getD (q + 1) 0) (L.getD q 0) = true)) (fun i _ => p - (intOf i).toNat)
  case atStart => exact ⟨0, Nat.zero_le _, rfl, Below.refl _ _, Lib.hid (fun q hq => absurd hq (Nat.not_lt_zero _))⟩
  case round =>
    obtain ⟨k, hk, rfl, hbw, hD⟩ := hrel
    have hbr := kw.trans (hbw.mono kw.size)
    by_cases hlt : k < p
    case pos =>
      have hkz : k < L.length := by rw [hl'.out]; omega
      have hkz1 : k + 1 < L.length := by rw [hl'.out]; omega
      obtain ⟨ad1, e1, hab1, hc1⟩ := HL'.out k _ (ivs_get L k hkz)
      injection e1 with e1
      subst e1
      obtain ⟨ad2, rfl, hab2, hc2⟩ := HRT.out k (.int .i64 L[k + 1]) (by rw [List.getElem?_drop, Nat.add_comm 1 k]; exact ivs_get L (k + 1) hkz1)
      have HNO := Lib.hid (HLB.out k hkz1)
      have HYS := Lib.hid (fun h : dA m X (L.getD (k + 1) 0) (L.getD k 0) = true => show ∀ q < k + 1, dA m X (L.getD (q + 1) 0) (L.getD q 0) = true from fun q hq => by
        rcases Nat.lt_or_ge q k with h' | h'
        · exact hD.out q h'
        · obtain rfl : q = k := by omega
          exact h)
      rw [getI_at hkz, getI_at hkz1] at HNO HYS
      obtain ⟨xa, hxa⟩ : ∃ x, x = L[k + 1] := ⟨_, rfl⟩
      obtain ⟨xb, hxb⟩ : ∃ x, x = L[k] := ⟨_, rfl⟩
      rw [← hxa] at hc2 HNO HYS
      rw [← hxb] at hc1 HNO HYS
      have hc3 := (hbr.cell (p := ad2.add k) (by rw [add_blk]; exact hab2)).trans hc2
      have hc4 := (kw.cell (p := ad.add k) (by rw [add_blk]; exact hab1)).trans hc1
      have hab5 : (ad.add k).block < W5.heap.size := by rw [add_blk]; have := kw.size; omega
      have KE := fun (u : World) (q : Below W5.heap.size W5 u) => show Below W5.heap.size W5 u ∧ u.cell? ⟨w3.heap.size, 0, none⟩ = some (.int .i64 rN) ∧ u.cell? ⟨w3.heap.size, 1, none⟩ = some (.int .u16 (f 0 : Nat)) ∧ u.cell? ⟨w3.heap.size, 2, none⟩ = some (.int .u16 (f 1 : Nat)) ∧ u.cell? ⟨w3.heap.size, 3, none⟩ = some (.int .u16 (f 2 : Nat)) ∧ u.cell? ⟨w3.heap.size, 4, none⟩ = some (.int .u16 (f 3 : Nat)) ∧ u.cell? ⟨w3.heap.size, 5, none⟩ = some (.int .u16 (f 4 : Nat)) ∧ u.cell? ⟨w3.heap.size, 6, none⟩ = some (.int .u16 (f 5 : Nat)) ∧ u.cell? ⟨w3.heap.size, 7, none⟩ = some (.int .u16 (f 6 : Nat)) ∧ u.cell? ⟨w3.heap.size, 8, none⟩ = some (.int .u16 (f 7 : Nat)) ∧ u.cell? ⟨w3.heap.size, 9, none⟩ = some (.int .u16 (f 8 : Nat)) ∧ u.cell? ⟨w3.heap.size, 10, none⟩ = some (.int .u16 (f 9 : Nat)) ∧ u.cell? (ad.add k) = some (.int .i64 xb) from by
        obtain ⟨d0, d1, d2, d3, d4, d5, d6, d7, d8, d9, d10⟩ := (bx5.new q).eleven
        exact ⟨q, d0, d1, d2, d3, d4, d5, d6, d7, d8, d9, d10, (q.cell (p := ad.add k) hab5).trans hc4⟩
      have HDd := Lib.hid (HDC.out xa xb)
      have hvl := HVL.out xa
      obtain ⟨d, hd⟩ : ∃ d, d = dA m X xa xb := ⟨_, rfl⟩
      rw [← hd] at HDd HNO HYS
      have j0 : (0 : Int) ≤ (k : Int) := by omega
      have j1 : (k : Int) < (p : Int) := by omega
      have j2 : (k : Int) < ((p : Int) + 1) := by omega
      clear hxa hxb hd hc1 hc2 hc4 hD
      go_wp2_with fail
      go_region_held3 (fun u => Below W5.heap.size W5 u ∧ u.cell? ⟨w3.heap.size, 0, none⟩ = some (.int .i64 rN) ∧ u.cell? ⟨w3.heap.size, 1, none⟩ = some (.int .u16 (f 0 : Nat)) ∧ u.cell? ⟨w3.heap.size, 2, none⟩ = some (.int .u16 (f 1 : Nat)) ∧ u.cell? ⟨w3.heap.size, 3, none⟩ = some (.int .u16 (f 2 : Nat)) ∧ u.cell? ⟨w3.heap.size, 4, none⟩ = some (.int .u16 (f 3 : Nat)) ∧ u.cell? ⟨w3.heap.size, 5, none⟩ = some (.int .u16 (f 4 : Nat)) ∧ u.cell? ⟨w3.heap.size, 6, none⟩ = some (.int .u16 (f 5 : Nat)) ∧ u.cell? ⟨w3.heap.size, 7, none⟩ = some (.int .u16 (f 6 : Nat)) ∧ u.cell? ⟨w3.heap.size, 8, none⟩ = some (.int .u16 (f 7 : Nat)) ∧ u.cell? ⟨w3.heap.size, 9, none⟩ = some (.int .u16 (f 8 : Nat)) ∧ u.cell? ⟨w3.heap.size, 10, none⟩ = some (.int .u16 (f 9 : Nat)) ∧ u.cell? (ad.add k) = some (.int .i64 xb)) (first | assumption | with_reducible exact KE _ hbw | with_reducible exact KE _ hbw.drew | with_reducible exact KE _ k9 | with_reducible exact KE _ (Below.drew k9))
        (first
        | (go_at_call 59; refine (victims_any (n := rN) (c := xa) (f := f) r0 r1).mono ?_; rintro e u9 ⟨rfl, hb9⟩; have k9 := trans_new (‹Below W5.heap.size W5 _ ∧ _›).1 hb9)
        | (go_at_call 60; (with_reducible refine (has_any (x := vic rN f xa) (c := xb) hvl).mono ?_); rintro e u9 ⟨he, rfl⟩; rw [HDd.out] at he; subst he; have k9 := (‹Below W5.heap.size W5 _ ∧ _›).1))
      all_goals
        cases d
      all_goals
        first
        | (have HV := Lib.hid (HNO.out rfl)
           go_wp2_with fail
           go_ret
           exact ⟨ret_b HV.out.symm, kw.trans (k9.mono kw.size)⟩)
        | (have HQ := Lib.hid (HYS.out rfl)
           go_wp2_with fail
           go_roundw
           case rel => first | exact ⟨k + 1, by omega, by go_num, HQ⟩ | exact ⟨k + 1, by omega, by go_num, k9, HQ⟩
           case measure => simp [intOf]; omega)
    case neg =>
      obtain rfl : k = p := by omega
      have HV := Lib.hid (HLC.out (fun i h => hD.out i (by rw [hl'.out] at h; omega)))
      have hnl : ¬ (k : Int) < (k : Int) := by omega
      clear hD
      go_wp2_with fail
      refine (usedOn_any (L := L) hl' hn' ((HL'.out.below hbr).more hbr.size)).mono ?_
      rintro e w6 ⟨v, rfl, hrow, hb6⟩
      obtain ⟨Au, cu, rfl, hrd, _, _⟩ := hrow.rd (n := (k + 1 + 1) / 2) (by rw [ivs_len, usd_len])
      obtain ⟨S, hS⟩ : ∃ S, S = usd L ((k + 1 + 1) / 2) := ⟨_, rfl⟩
      rw [hl'.out, ← hS] at HV
      rw [← hS] at hrd
      have HSL := Lib.hid (show S.length = (k + 1 + 1) / 2 by rw [hS, usd_len])
      obtain ⟨z, hz⟩ : ∃ z, z = (k + 1 + 1) / 2 := ⟨_, rfl⟩
      rw [← hz] at HV HSL ⊢
      have HZ := Lib.hid (show z ≤ 1099511627776 by omega)
      clear hS hz hnl
      go_wp2_with fail
      refine (bitsOf_any (S := S) HSL HZ.out hrd).mono ?_
      rintro e w7 ⟨rfl, rfl⟩
      go_wp2_with fail
      refine (ones_any (x := bS S) (bS_lt S)).mono ?_
      rintro e w8 ⟨rfl, hb8⟩
      have hb9 := (hbr.trans (hb6.mono hbr.size))
      have hb10 := hb9.trans (hb8.mono hb9.size)
      have HC := Lib.hid (show cntU S = (lsT (bS S) 10).length from rfl)
      rw [← HC.out]
      go_wp2_with fail
      go_ret
      exact ⟨ret_b (by rw [HV.out, Bool.eq_iff_iff, beq_iff_eq, decide_eq_true_iff]; omega), hb10⟩
theorem impIsLine_any (hl : Hid (X.length = n)) (hn : n ≤ 1099511627776) (hr : RdSS w w.heap.size A X) (hl' : Hid (L.length = n')) (hn' : n' ≤ 1099511627776) (hr' : Rd w w.heap.size A' (ivs L)) (hnc : n' ≤ c') :
    Calls Try.prog 24 #[.agg #[.int .i64 N, .slice A n c], .slice A' n' c'] w (Tells (lineB N X L) w) := by
  by_cases hX : gB N X = true
  case neg => exact isLine_A (by simpa using hX) hl hn hr
  case pos =>
    rcases Nat.eq_zero_or_pos n' with rfl | h0
    · exact isLine_B hX hl hn hr hl'.out
    · by_cases hi : inr (L.getD 0 0) 0 (N - 1) = true
      · exact isLine_D hX hl hn hr hl' hn' hr' h0 hi hnc
      · exact isLine_C hX hl hn hr hl' hn' hr' h0 (by simpa using hi)
end
end Go.Proofs.Ytobghogkflgpeaa
