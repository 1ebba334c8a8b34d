/- Contract of the model of WinnerOf. Conditions: the slices have at most 2^40 elements. -/
import Derived.Test.YtejncjjkcmhmbaaWinMath
import Derived.Test.YtejncjjkcmhmbaaLineM
import Derived.Test.YtejncjjkcmhmbaaAnsM
import Derived.Test.YtejncjjkcmhmbaaTxtC
namespace Go.Proofs.Ytejncjjkcmhmbaa
open Go.ChangeShapes Go.WideShapes Go.ChangeAt Go.RowKit
set_option maxRecDepth 100000
theorem ivs_appW (zs : List Int) (x : Int) : ivs (zs ++ [x]) = ivs zs ++ [Value.int .i64 x] := by simp [ivs]
section
variable {w : World} {A A' : Option Addr} {n c n' c' : Nat} {N : Int} {X : List (List Int)} {L : List Int}
set_option maxHeartbeats 8000000 in
theorem specWinnerOf_any (hl : Hid (X.length = n)) (hn : n ≤ 1099511627776) (hr : RdSS w w.heap.size A X) (hl' : Hid (L.length = n')) (hn' : n' ≤ 1099511627776) (hr' : Rd w w.heap.size A' (ivs L)) :
    Calls Try.prog 24 #[.agg #[.int .i64 N, .slice A n c], .slice A' n' c'] w (fun e w' => e = .returned (txV (winT N X L)) ∧ Below w.heap.size w w') := by
  obtain ⟨ti, hti, hz0, hz1, hz2⟩ := info_parts IntS_info
  have hb1 := alloc_new w (Obj.cells #[Value.int IntKind.i64 N, Value.slice A n c] 27)
  have bx1 := Bx.made w 27 #[Value.int IntKind.i64 N, Value.slice A n c]
  obtain ⟨W1, hW⟩ : ∃ u : World, u = w.alloc (Obj.cells #[Value.int IntKind.i64 N, Value.slice A n c] 27) := ⟨_, rfl⟩
  rw [← hW] at hb1 bx1
  have hW' := hW.symm
  have HR := Lib.hid ((hr.below hb1).more hb1.size)
  have HR' := Lib.hid ((hr'.below hb1).more hb1.size)
  have hg : w.heap.size < W1.heap.size := bx1.lt
  obtain ⟨C0, C1⟩ := bx1.two
  clear hW hr hr'
  by_cases hline : lineB N X L = true
  case neg =>
    have HB := Lib.hid (show lineB N X L = false by simpa using hline)
    have HV := Lib.hid (winT_no HB.out)
    clear hline
    go_enter Try.func24, Try.ntmps24
    go_wp2_with fail
    refine (specIsLine_any (N := N) (c := c) hl hn HR.out hl' hn' HR'.out).mono ?_
    rintro e w2 ⟨rfl, hb2⟩
    rw [HB.out]
    go_wp2_with fail
    go_ret
    exact ⟨by rw [HV.out]; rfl, hb1.trans (hb2.mono hb1.size)⟩
  case pos =>
    have HB := Lib.hid hline
    have hpos := line_pos hline
    rw [hl'.out] at hpos
    obtain ⟨l, hl1⟩ : ∃ z, z = L.getD (n' - 1) 0 := ⟨_, rfl⟩
    have HLn := Lib.hid hl1
    have hkz : n' - 1 < L.length := by rw [hl'.out]; omega
    have HG : Hid (L[n' - 1] = l) := Lib.hid (by rw [hl1, getZ_at hkz])
    obtain ⟨ad, rfl, hab, hc⟩ := ivs_at HR'.out hkz
    rw [HG.out] at hc
    obtain ⟨p, hp⟩ : ∃ p, p = n' - 1 := ⟨_, rfl⟩
    rw [← hp] at hc
    have i1 : (0 : Int) ≤ (p : Int) := by omega
    have i2 : (p : Int) < (n' : Int) := by omega
    have i5 : (n' : Int) - 1 = (p : Int) := by omega
    have HP := Lib.hid hp
    clear hline hl1 hp
    go_enter Try.func24, Try.ntmps24
    go_wp2_with fail
    refine (specIsLine_any (N := N) (c := c) hl hn HR.out hl' hn' HR'.out).mono ?_
    rintro e w2 ⟨rfl, hb2⟩
    rw [HB.out]
    have hb3 := hb1.trans (hb2.mono hb1.size)
    have bx2 := bx1.new hb2
    have HR2 := Lib.hid ((HR.out.below hb2).more hb2.size)
    have HR2' := Lib.hid ((HR'.out.below hb2).more hb2.size)
    have hc2 := (hb2.cell (p := ad.add p) (by rw [add_blk]; exact hab)).trans hc
    obtain ⟨D0, D1⟩ := bx2.two
    clear C0 C1 hc hW'
    by_cases hodd : n' % 2 = 1
    · have HEV : Hid (L.length % 2 ≠ 0) := Lib.hid (by rw [hl'.out]; omega)
      have he1 : (((n' : Int) % 2) == 1) = true := by simp; omega
      have HLL : Hid (winL N X L = atk N X l) := Lib.hid (by unfold winL; rw [winU_odd HEV.out, ansL_nil, HLn.out, hl'.out])
      clear hodd
      go_wp2_with fail
      refine (specAttackersOf_any (N := N) (X := X) (c := c) hl hn HR2.out).mono ?_
      rintro e w4 ⟨v, rfl, hrow, hb5⟩
      obtain ⟨A5, c5, rfl, _, _, _⟩ := hrow.rd (n := (atk N X l).length) (ivs_len _)
      by_cases h0 : (winL N X L).length = 0
      · have HV := Lib.hid (winT_frs HB.out h0 HEV.out)
        rw [HLL.out] at h0
        rw [h0]
        clear hrow
        go_wp2_with fail
        go_ret
        exact ⟨by rw [HV.out]; rfl, hb3.trans (hb5.mono hb3.size)⟩
      · have HV := Lib.hid (winT_none HB.out (by omega))
        rw [HLL.out] at h0
        have h1 : (((atk N X l).length : Int) == 0) = false := by simp; exact fun h => h0 (by rw [h]; rfl)
        generalize (atk N X l).length = q at h1 ⊢
        clear h0 hrow
        go_wp2_with fail
        go_ret
        exact ⟨by rw [HV.out]; rfl, hb3.trans (hb5.mono hb3.size)⟩
    · have HEV : Hid (L.length % 2 = 0) := Lib.hid (by rw [hl'.out]; omega)
      have he1 : (((n' : Int) % 2) == 1) = false := by simp; omega
      have HU := Lib.hid (winU_even HEV.out)
      have hn2 : n' / 2 * 2 = n' := by have := HEV.out; rw [hl'.out] at this; omega
      obtain ⟨h2, hh2⟩ : ∃ h, h = n' / 2 := ⟨_, rfl⟩
      have hnh : n' = 2 * h2 := by omega
      have HLL : Hid (winL N X L = ansL N X (usd L h2) l) := Lib.hid (by unfold winL; rw [HU.out, HLn.out, hl'.out, hh2])
      have HNH := Lib.hid hnh
      clear hodd hn2 hh2 hnh
      have hrow0 := Row.made (w := w2) w2.heap.size #[] 0 3 (Nat.le_refl _) rfl (Nat.zero_le _)
      have hb0 := alloc_new w2 (Obj.cells #[] 3)
      go_wp2_with fail
      go_loopw [6, 7] (fun b i wr => ∃ j : Nat, j ≤ h2 ∧ i = .int .i64 ((2 * j : Nat) : Int) ∧ Row wr w2.heap.size wr.heap.size 3 b (ivs (usd L j)) ∧ Below w2.heap.size w2 wr) (fun _ i _ => n' + 1 - (intOf i).toNat)
      case atStart => exact ⟨0, Nat.zero_le _, rfl, hrow0.wide (Nat.le_refl _) (by simp), hb0⟩
      case round =>
        obtain ⟨j, hj, rfl, hrow, hbw⟩ := hrel
        have hsz := hbw.size
        clear hrow0 hb0
        obtain ⟨k, hk⟩ : ∃ k, k = 2 * j := ⟨_, rfl⟩
        rw [← hk]
        have HK := Lib.hid hk
        clear hk
        by_cases hlt : k < n'
        · have hkz' : k < L.length := by rw [hl'.out]; exact hlt
          obtain ⟨ad', e', hab', hc'⟩ := ivs_at (HR2'.out.below hbw) hkz'
          injection e' with e'
          subst e'
          have HE := Lib.hid (show ivs (usd L (j + 1)) = ivs (usd L j) ++ [Value.int .i64 L[k]] by
            rw [usd_succ, ivs_appW, ← HK.out, getZ_at hkz'])
          obtain ⟨x, hx⟩ : ∃ x, x = L[k] := ⟨_, rfl⟩
          rw [← hx] at hc' HE
          have L1 := Lib.hid (show (ivs (usd L j)).length + 1 ≤ maxLen ∧ ((ivs (usd L j)).length + 1) * 8 ≤ 140737488355328 by rw [ivs_len, usd_len]; have := HK.out; unfold maxLen; omega)
          obtain ⟨Ab, cb, rfl, hrd, hnc, hcm⟩ := hrow.rd (n := j) (by rw [ivs_len, usd_len])
          have hrow2 := hrow.new (alloc_new wr (Obj.cells #[.int .i64 x] 3))
          have hmade := Rd.made wr #[.int .i64 x] 3
          have hba := hbw.alloc (B := w2.heap.size) hsz (Obj.cells #[.int .i64 x] 3)
          clear hx hrd hrow hc2
          go_wp2_with (at_builtin; refine wpList_app rfl (.tmp 34) (.tmp 39) 25 rfl 3 ti _ 8 Try.underlying25 hti hz0 hz1 hz2 rfl rfl rfl hrow2 rfl hmade (by simp [Value.oneCell']) L1.out.1 L1.out.2 (by simp; omega) ?_; intro v1 w1 hrow1 ho1)
          go_roundw
          case rel => exact ⟨j + 1, by have := HK.out; have := HNH.out; omega, by have := HK.out; go_num, by rw [HE.out]; exact hrow1, hba.trans (ho1.below (Nat.le_refl _) (by simp; omega))⟩
          case measure => simp [intOf]; omega
        · have HJ : j = h2 := by have := HK.out; have := HNH.out; omega
          subst HJ
          obtain ⟨Au, cu, rfl, hrU, _, _⟩ := hrow.rd (n := j) (by rw [ivs_len, usd_len])
          have bx3 := bx2.new hbw
          obtain ⟨E0, E1⟩ := bx3.two
          have hbz := hb3.trans (hbw.mono hb3.size)
          go_wp2_with fail
          refine (specAnswersTo_any (N := N) (X := X) (S := usd L j) (a := l) (c := c) (c' := cu) hl hn ((HR2.out.below hbw).more hbw.size) (Lib.hid (usd_len _ _)) (by have := HNH.out; omega) hrU).mono ?_
          rintro e w4 ⟨v, rfl, hrow5, hb5⟩
          obtain ⟨A5, c5, rfl, _, _, _⟩ := hrow5.rd (n := (ansL N X (usd L j) l).length) (ivs_len _)
          clear hrow hrow5
          by_cases h0 : (winL N X L).length = 0
          · have HV := Lib.hid (winT_sct HB.out h0 HEV.out)
            rw [HLL.out] at h0
            rw [h0]
            go_wp2_with fail
            go_ret
            exact ⟨by rw [HV.out]; rfl, hbz.trans (hb5.mono hbz.size)⟩
          · have HV := Lib.hid (winT_none HB.out (by omega))
            rw [HLL.out] at h0
            have h1 : (((ansL N X (usd L j) l).length : Int) == 0) = false := by simp; exact fun h => h0 (by rw [h]; rfl)
            generalize (ansL N X (usd L j) l).length = q at h1 ⊢
            clear h0
            go_wp2_with fail
            go_ret
            exact ⟨by rw [HV.out]; rfl, hbz.trans (hb5.mono hbz.size)⟩
end
end Go.Proofs.Ytejncjjkcmhmbaa
