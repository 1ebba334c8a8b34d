/- Contract of the code's WinnerOf. Conditions: the slices have at most 2^40 elements. -/
import Derived.Test.YtobghogkflgpeaaMg31
import Derived.Test.YtobghogkflgpeaaLineD
import Derived.Test.YtobghogkflgpeaaMg28
import Derived.Test.YtobghogkflgpeaaTxtC
namespace Go.Proofs.Ytobghogkflgpeaa
open Go.ChangeShapes Go.WideShapes Go.ChangeAt Go.RowKit
set_option maxRecDepth 100000
section
variable {w : World} {A A' : Option Addr} {n c n' c' : Nat} {N : Int} {X : List (List Int)} {L : List Int}
set_option maxHeartbeats 8000000 in
theorem impWinnerOf_any (hl : Hid (X.length = n)) (hn : n ≤ 1099511627776) (hr : RdSS w w.heap.size A X) (hl' : Hid (L.length = n')) (hn' : n' ≤ 1099511627776) (hr' : Rd w w.heap.size A' (ivs L)) (hnc : n' ≤ c') :
    Calls Try.prog 23 #[.agg #[.int .i64 N, .slice A n c], .slice A' n' c'] w (fun e w' => e = .returned (txV (winT N X L)) ∧ Below w.heap.size w w') := by
  have hb1 := alloc_new w (Obj.cells #[Value.int IntKind.i64 N, Value.slice A n c] 27)
  have bx1 := Bx.made w 27 #[Value.int IntKind.i64 N, Value.slice A n c]
  obtain ⟨W1, hW⟩ : ∃ u : World, u = w.alloc (Obj.cells #[Value.int IntKind.i64 N, Value.slice A n c] 27) := ⟨_, rfl⟩
  rw [← hW] at hb1 bx1
  have hW' := hW.symm
  have HR := Lib.hid ((hr.below hb1).more hb1.size)
  have HR' := Lib.hid ((hr'.below hb1).more hb1.size)
  have hg : w.heap.size < W1.heap.size := bx1.lt
  obtain ⟨C0, C1⟩ := bx1.two
  clear hW hr hr'
  by_cases hline : lineB N X L = true
  case neg =>
    have HB := Lib.hid (show lineB N X L = false by simpa using hline)
    have HV := Lib.hid (winT_no HB.out)
    clear hline
    go_enter Try.func23, Try.ntmps23
    go_wp2_with fail
    refine (impIsLine_any (N := N) (c := c) hl hn HR.out hl' hn' HR'.out hnc).mono ?_
    rintro e w2 ⟨rfl, hb2⟩
    rw [HB.out]
    go_wp2_with fail
    go_ret
    exact ⟨by rw [HV.out]; rfl, hb1.trans (hb2.mono hb1.size)⟩
  case pos =>
    have HB := Lib.hid hline
    have hpos := line_pos hline
    rw [hl'.out] at hpos
    obtain ⟨l, hl1⟩ : ∃ z, z = L.getD (n' - 1) 0 := ⟨_, rfl⟩
    have HLn := Lib.hid hl1
    have hkz : n' - 1 < L.length := by rw [hl'.out]; omega
    have HG : Hid (L[n' - 1] = l) := Lib.hid (by rw [hl1, getI_at hkz])
    clear hline hl1
    go_enter Try.func23, Try.ntmps23
    go_wp2_with fail
    refine (impIsLine_any (N := N) (c := c) hl hn HR.out hl' hn' HR'.out hnc).mono ?_
    rintro e w2 ⟨rfl, hb2⟩
    rw [HB.out]
    have hb3 := hb1.trans (hb2.mono hb1.size)
    have bx2 := bx1.new hb2
    have HR2 := Lib.hid ((HR.out.below hb2).more hb2.size)
    have HR2' := Lib.hid ((HR'.out.below hb2).more hb2.size)
    have hrow0 := Row.made (w := w2) w2.heap.size #[] 0 3 (Nat.le_refl _) rfl (Nat.zero_le _)
    have k3 := alloc_new w2 (Obj.cells #[] 3)
    obtain ⟨W3, hW3⟩ : ∃ u : World, u = w2.alloc (Obj.cells #[] 3) := ⟨_, rfl⟩
    rw [← hW3] at hrow0 k3
    have hW3' := hW3.symm
    have bx3 := bx2.new k3
    have hb4 := hb3.trans (k3.mono hb3.size)
    have HR3 := Lib.hid ((HR2.out.below k3).more k3.size)
    have HR3' := Lib.hid ((HR2'.out.below k3).more k3.size)
    clear C0 C1 hW' hW3
    obtain ⟨ad, rfl, hab, hc⟩ := ivs_at HR3'.out hkz
    rw [HG.out] at hc
    have hs4 := hb4.size
    have HRW := Lib.hid hrow0
    clear hrow0
    by_cases heven : n' % 2 = 0
    · have HEV : Hid (L.length % 2 = 0) := Lib.hid (by rw [hl'.out]; exact heven)
      have HU := Lib.hid (winU_even HEV.out)
      have he1 : (((n' : Int) % 2) == 0) = true := by simp; omega
      clear heven
      go_wp2_with fail
      refine (usedOn_any hl' hn' HR3'.out).mono ?_
      rintro e W9 ⟨v, rfl, hrow, hb9⟩
      obtain ⟨Au, cu, rfl, hrU, _, _⟩ := hrow.rd (n := (n' + 1) / 2) (by rw [ivs_len, usd_len])
      have bx9 := bx3.new hb9
      have hbz := hb4.trans (hb9.mono hb4.size)
      have HR9 := Lib.hid ((HR3.out.below hb9).more hb9.size)
      have hc9 := (hb9.cell (p := ad.add (n' - 1)) (by rw [add_blk]; exact hab)).trans hc
      have hz9 := hb9.size
      have hevn : (n' + 1) / 2 = n' / 2 := by have := HEV.out; rw [hl'.out] at this; omega
      have HUZ : Hid ((winU L).length = (n' + 1) / 2) := Lib.hid (by rw [HU.out, usd_len, hl'.out, hevn])
      have hrU : Rd W9 W9.heap.size Au (ivs (winU L)) := by rw [HU.out, hl'.out, ← hevn]; exact hrU
      have hlu : (n' + 1) / 2 ≤ 1099511627776 := by omega
      generalize (n' + 1) / 2 = lu at HUZ hlu ⊢
      clear hrow hb9 hevn hc bx3

      obtain ⟨p, hp⟩ : ∃ p, p = n' - 1 := ⟨_, rfl⟩
      rw [← hp] at hc9
      have KE := fun (u : World) (q : Below W9.heap.size W9 u) => show Below W9.heap.size W9 u ∧ u.cell? ⟨w.heap.size, 0, none⟩ = some (.int .i64 N) ∧ u.cell? ⟨w.heap.size, 1, none⟩ = some (.slice A n c) ∧ u.cell? (ad.add p) = some (.int .i64 l) from ⟨q, (bx9.new q).two.1, (bx9.new q).two.2, (q.cell (p := ad.add p) (by rw [add_blk]; omega)).trans hc9⟩
      obtain ⟨U, hU⟩ : ∃ U, U = winU L := ⟨_, rfl⟩
      have HLL : Hid (winL N X L = ansL N X U l) := Lib.hid (by unfold winL; rw [hU, HLn.out, hl'.out])
      have HUL : Hid (U.length ≤ n') := Lib.hid (by rw [hU, ← hl'.out]; exact winU_len)
      rw [← hU] at hrU HUZ
      have HUZ2 := HUZ
      have i1 : (0 : Int) ≤ (p : Int) := by omega
      have i2 : (p : Int) < (n' : Int) := by omega
      have i3 : IntKind.i64.wrap ((n' : Int) - 1) = (p : Int) := by rw [IntWalk.i64_in _ (by omega)]; omega
      clear hp
      clear hU
      go_wp2_with fail
      go_region_held3 (fun u => Below W9.heap.size W9 u ∧ u.cell? ⟨w.heap.size, 0, none⟩ = some (.int .i64 N) ∧ u.cell? ⟨w.heap.size, 1, none⟩ = some (.slice A n c) ∧ u.cell? (ad.add p) = some (.int .i64 l)) (first | assumption | with_reducible exact KE _ (Below.refl _ _) | with_reducible exact KE _ (Below.refl _ _).drew | with_reducible exact KE _ k9 | with_reducible exact KE _ (Below.drew k9))
        ((go_at_call 21; (with_reducible refine (impAnswersTo_any (N := N) (X := X) (S := U) (a := l) (c := c) (c' := cu) hl hn ((HR9.out.below (‹Below W9.heap.size W9 _ ∧ _›).1).more (‹Below W9.heap.size W9 _ ∧ _›).1.size) (HUZ2) (by have := HUL.out; omega) ((hrU.below (‹Below W9.heap.size W9 _ ∧ _›).1).more (‹Below W9.heap.size W9 _ ∧ _›).1.size)).mono ?_); rintro e u9 ⟨v, rfl, hrow9, hb9⟩; obtain ⟨A9, c9, rfl, _, _, _⟩ := hrow9.rd (n := (ansL N X U l).length) (ivs_len _); have k9 := trans_new (‹Below W9.heap.size W9 _ ∧ _›).1 hb9))
      all_goals
        by_cases h0 : (winL N X L).length = 0
        · have HV := Lib.hid (winT_sct HB.out h0 HEV.out)
          rw [HLL.out] at h0
          rw [h0]
          go_wp2_with fail
          go_ret
          exact ⟨by rw [HV.out]; rfl, hbz.trans (k9.mono hbz.size)⟩
        · have HV := Lib.hid (winT_none HB.out (by omega))
          rw [HLL.out] at h0
          have h1 : (0 : Int) < ((ansL N X U l).length : Int) := by omega
          generalize (ansL N X U l).length = q at h1 ⊢
          clear h0
          go_wp2_with fail
          go_ret
          exact ⟨by rw [HV.out]; rfl, hbz.trans (k9.mono hbz.size)⟩
    · have HEV : Hid (L.length % 2 ≠ 0) := Lib.hid (by rw [hl'.out]; exact heven)
      have HU := Lib.hid (winU_odd HEV.out)
      have he1 : (((n' : Int) % 2) == 0) = false := by simp; omega
      clear heven
      obtain ⟨W9, hW9⟩ : ∃ z, z = W3 := ⟨_, rfl⟩
      have hrU : Rd W9 W9.heap.size (some ⟨w2.heap.size, 0, none⟩) (ivs (winU L)) := by rw [HU.out]; exact Rd.nil
      have HUZ : Hid ((winU L).length = 0) := Lib.hid (by rw [HU.out]; rfl)
      have cuz : ∃ cu : Nat, cu = 0 := ⟨_, rfl⟩
      obtain ⟨cu, hcu⟩ := cuz
      rw [← hW9] at bx3 hb4 HR3 hc hs4 hab hW3'
      have bx9 := bx3
      have hbz := hb4
      have HR9 := HR3
      have hc9 := hc
      have hz9 := Nat.le_refl W9.heap.size
      clear hW9 HRW k3 HR3'

      obtain ⟨p, hp⟩ : ∃ p, p = n' - 1 := ⟨_, rfl⟩
      rw [← hp] at hc9
      have KE := fun (u : World) (q : Below W9.heap.size W9 u) => show Below W9.heap.size W9 u ∧ u.cell? ⟨w.heap.size, 0, none⟩ = some (.int .i64 N) ∧ u.cell? ⟨w.heap.size, 1, none⟩ = some (.slice A n c) ∧ u.cell? (ad.add p) = some (.int .i64 l) from ⟨q, (bx9.new q).two.1, (bx9.new q).two.2, (q.cell (p := ad.add p) (by rw [add_blk]; omega)).trans hc9⟩
      obtain ⟨U, hU⟩ : ∃ U, U = winU L := ⟨_, rfl⟩
      have HLL : Hid (winL N X L = ansL N X U l) := Lib.hid (by unfold winL; rw [hU, HLn.out, hl'.out])
      have HUL : Hid (U.length ≤ n') := Lib.hid (by rw [hU, ← hl'.out]; exact winU_len)
      rw [← hU] at hrU HUZ
      have HUZ2 := HUZ
      have i1 : (0 : Int) ≤ (p : Int) := by omega
      have i2 : (p : Int) < (n' : Int) := by omega
      have i3 : IntKind.i64.wrap ((n' : Int) - 1) = (p : Int) := by rw [IntWalk.i64_in _ (by omega)]; omega
      clear hp
      clear hU
      go_wp2_with fail
      go_region_held3 (fun u => Below W9.heap.size W9 u ∧ u.cell? ⟨w.heap.size, 0, none⟩ = some (.int .i64 N) ∧ u.cell? ⟨w.heap.size, 1, none⟩ = some (.slice A n c) ∧ u.cell? (ad.add p) = some (.int .i64 l)) (first | assumption | with_reducible exact KE _ (Below.refl _ _) | with_reducible exact KE _ (Below.refl _ _).drew | with_reducible exact KE _ k9 | with_reducible exact KE _ (Below.drew k9))
        ((go_at_call 21; (with_reducible refine (impAnswersTo_any (N := N) (X := X) (S := U) (a := l) (c := c) (c' := 0) hl hn ((HR9.out.below (‹Below W9.heap.size W9 _ ∧ _›).1).more (‹Below W9.heap.size W9 _ ∧ _›).1.size) (HUZ2) (by have := HUL.out; omega) ((hrU.below (‹Below W9.heap.size W9 _ ∧ _›).1).more (‹Below W9.heap.size W9 _ ∧ _›).1.size)).mono ?_); rintro e u9 ⟨v, rfl, hrow9, hb9⟩; obtain ⟨A9, c9, rfl, _, _, _⟩ := hrow9.rd (n := (ansL N X U l).length) (ivs_len _); have k9 := trans_new (‹Below W9.heap.size W9 _ ∧ _›).1 hb9))
      all_goals
        by_cases h0 : (winL N X L).length = 0
        · have HV := Lib.hid (winT_frs HB.out h0 HEV.out)
          rw [HLL.out] at h0
          rw [h0]
          go_wp2_with fail
          go_ret
          exact ⟨by rw [HV.out]; rfl, hbz.trans (k9.mono hbz.size)⟩
        · have HV := Lib.hid (winT_none HB.out (by omega))
          rw [HLL.out] at h0
          have h1 : (0 : Int) < ((ansL N X U l).length : Int) := by omega
          generalize (ansL N X U l).length = q at h1 ⊢
          clear h0
          go_wp2_with fail
          go_ret
          exact ⟨by rw [HV.out]; rfl, hbz.trans (k9.mono hbz.size)⟩
end
end Go.Proofs.Ytobghogkflgpeaa
