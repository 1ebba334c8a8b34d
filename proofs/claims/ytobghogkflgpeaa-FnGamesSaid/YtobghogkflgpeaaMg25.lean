/- Contracts of the draws of games: l8Small. Condition: the code's bytes lie in old memory. -/
import Derived.Test.YtobghogkflgpeaaMg17
import Derived.Test.YtobghogkflgpeaaMg24
import Derived.Deep.RegionHeld3
namespace Go.Proofs.Ytobghogkflgpeaa
open Go.ChangeShapes Go.WideShapes Go.ChangeAt Go.RowKit
set_option maxRecDepth 100000
set_option maxHeartbeats 8000000 in
theorem small8_any {w : World} {B : Nat} {A : Option Addr} {n c : Nat} (h : Cur w B A n c) :
    Calls Try.prog 50 #[.pointer (some ⟨B, 0, none⟩)] w (DrewG (fun _ => True) 7 B A n c w) := by
  have hB := h.lt
  have bx0 := Bx.made w 27 #[Value.int .i64 0, .slice none 0 0]
  have hg0 : w.grownBy (w.alloc (Obj.cells #[Value.int .i64 0, .slice none 0 0] 27)) (some B) := only_alloc (only_refl w _) _
  have cur0 := h.alloc (Obj.cells #[Value.int .i64 0, .slice none 0 0] 27)
  have hs0 : (w.alloc (Obj.cells #[Value.int .i64 0, .slice none 0 0] 27)).heap.size = w.heap.size + 1 := by simp
  go_enter Try.func50, Try.ntmps50
  go_wp2_with fail
  refine (below_any cur0 5 (by omega)).mono ?_
  rintro e w1 ⟨x, ⟨hx0, hx1⟩, rfl, hg1, cur1⟩
  have hsz1 := hg1.size
  have bx1 := bx0.only hg1 (by omega)
  have hgw1 := only_trans hg0 hg1
  have hW := IntWalk.i64_in (1 + x) (by omega)
  have bx2 := bx1.new ((Below.refl _ _).alloc (Nat.le_refl _) (Obj.cells #[Value.int .i64 (1 + x), .slice none 0 0] 27))
  have bx3 := Bx.made w1 27 #[Value.int .i64 (1 + x), .slice none 0 0]
  have cur2 := cur1.alloc (Obj.cells #[Value.int .i64 (1 + x), .slice none 0 0] 27)
  have hgw2 := only_alloc hgw1 (Obj.cells #[Value.int .i64 (1 + x), .slice none 0 0] 27)
  have hs2 : (w1.alloc (Obj.cells #[Value.int .i64 (1 + x), .slice none 0 0] 27)).heap.size = w1.heap.size + 1 := by simp
  clear bx0 hg0 cur0 bx1 cur1 hg1
  go_wp2_with fail
  refine (below_any cur2 8 (by omega)).mono ?_
  rintro e w3 ⟨y, ⟨hy0, hy1⟩, rfl, hg3, cur3⟩
  obtain ⟨i, rfl⟩ := Int.eq_ofNat_of_zero_le hy0
  have hsz3 := hg3.size
  have b2 := bx2.only hg3 (by omega)
  have b3 := bx3.only hg3 (by omega)
  have hgw3 := only_trans hgw2 hg3
  obtain ⟨g, hg⟩ : ∃ g, g = w1.heap.size := ⟨_, rfl⟩
  obtain ⟨N, hN⟩ : ∃ N, N = 1 + x := ⟨_, rfl⟩
  have hN0 : 1 ≤ N := by omega
  have hN6 : N ≤ 5 := by omega
  rw [hs2] at hsz3
  rw [← hg] at b3 hsz3 hsz1 ⊢
  rw [← hN] at b3 ⊢
  clear bx2 bx3 cur2 hgw2 hs2 hg3 hgw1 hW
  clear hg hN
  go_wp2_with fail
  go_loopw [4] (fun i wr => ∃ (j : Nat) (X : List (List Int)) (v : Value), j ≤ 7 ∧ i = .int .i64 j ∧ Bx wr g 27 #[Value.int .i64 N, v] ∧ Bx wr w.heap.size 27 #[Value.int .i64 0, .slice none 0 0] ∧ OwnSS wr (g + 1) wr.heap.size v X ∧ GOK (7 - j) X ∧ Cur wr B A n c ∧ w.grownBy wr (some B) ∧ g + 1 ≤ wr.heap.size) (fun i _ => (intOf i).toNat)
  case atStart => exact ⟨i, [], _, by omega, rfl, b3, b2, OwnSS.nil, ⟨by simp, by simp⟩, cur3, hgw3, hsz3⟩
  case round =>
    obtain ⟨j, X, v, hj, rfl, bg, br, hov, hok, cur4, hgw, hgz⟩ := hrel
    clear b2 b3 cur3 hgw3 hsz3
    by_cases hj0 : j = 0
    · subst hj0
      have hBg : B ≠ g := by omega
      have HC := Lib.hid cur4
      have HG := Lib.hid bg
      have HR := Lib.hid br
      have HO := Lib.hid hov
      have HK := Lib.hid hok
      have HW := Lib.hid hgw
      clear cur4 bg br hov hok hgw
      go_wp2_with fail
      refine (once_any HC.out 12 (by omega)).mono ?_
      rintro e w5 ⟨x, rfl, hg5, cur5⟩
      have bg5 := HG.out.only hg5 hBg
      have br5 := HR.out.only hg5 (by omega)
      have ho5 := HO.out.only hg5 (by omega)
      have hgw5 := only_trans HW.out hg5
      have hz5 := hg5.size
      have hv1 := ho5.one
      obtain ⟨D0, D1⟩ := bg5.two
      have f0 := bg5.free 0
      have HO5 := Lib.hid ho5
      have HC5 := Lib.hid cur5
      have HR5 := Lib.hid br5
      have HW5 := Lib.hid hgw5
      clear ho5 cur5 hgw5
      cases x
      · go_wp2_with (first | (refine ldGR rfl (.tmp 3) rfl bg5 rfl rfl ?_) | (refine stGR rfl (.tmp 2) (.tmp 31) rfl br5 rfl hv1 rfl rfl ?_))
        refine bodyPost_ret (resGR rfl (br5.setRow _) rfl rfl) rfl ⟨N, X, v, trivial, HK.out, rfl, ?_, ?_, ?_⟩
        · exact (HO5.out.out (setRow_out w5 _ _ (Nat.le_refl _) (Nat.lt_succ_self _)) (.inr (by omega))).wide (by omega) (by simp [World.setRow]; omega)
        · exact only_row HW5.out (Nat.le_refl _) _
        · exact HC5.out.below' ((setRow_out w5 w.heap.size _ (Nat.le_refl _) (Nat.lt_succ_self _)).below (Nat.le_refl _) HW5.out.size) hB
      · have bg6 := bg5.set 0 (.int .i64 (-1))
        have br6 := br5.far (p := ⟨g, 0, none⟩) (by show w.heap.size ≠ g; omega) (.int .i64 (-1))
        have ho6 := HO5.out.setFar (p := ⟨g, 0, none⟩) (.inl (by show g < _; omega)) (.int .i64 (-1))
        have hgw6 := only_setnew (p := ⟨g, 0, none⟩) HW5.out (by show w.heap.size ≤ g; omega) (.int .i64 (-1))
        have cur6 := HC5.out.below' ((Below.refl g w5).setCell (p := ⟨g, 0, none⟩) (Nat.le_refl _) (.int .i64 (-1))) (by omega)
        have hz6 : (w5.setCell ⟨g, 0, none⟩ (.int .i64 (-1))).heap.size = w5.heap.size := by simp
        go_wp2_with (first | (refine ldGR rfl (.tmp 3) rfl bg6 rfl rfl ?_) | (refine stGR rfl (.tmp 2) (.tmp 31) rfl br6 rfl hv1 rfl rfl ?_))
        refine bodyPost_ret (resGR rfl (br6.setRow _) rfl rfl) rfl ⟨-1, X, v, trivial, HK.out, rfl, ?_, ?_, ?_⟩
        · exact (ho6.out (setRow_out _ _ _ (Nat.le_refl _) (Nat.lt_succ_self _)) (.inr (by omega))).wide (by omega) (by simp [World.setRow]; omega)
        · exact only_row hgw6 (Nat.le_refl _) _
        · exact cur6.below' ((setRow_out _ w.heap.size _ (Nat.le_refl _) (Nat.lt_succ_self _)).below (Nat.le_refl _) hgw6.size) hB
    · obtain ⟨j', rfl⟩ : ∃ j', j = j' + 1 := ⟨j - 1, by omega⟩
      obtain ⟨Av, cv, rfl, _, _, _⟩ := hov.rd (n := X.length) rfl
      obtain ⟨D0, D1⟩ := bg.two
      have HO := Lib.hid hov
      have HB := Lib.hid bg
      have HL := Lib.hid (show X.length ≤ 1099511627775 by have := hok.1; omega)
      have hsm := hok.small
      have hp0 : (0 : Int) < ((j' + 1 : Nat) : Int) := by omega
      have hBg : B ≠ g := by omega
      have HOK := Lib.hid hok
      have HC := Lib.hid cur4
      clear hov bg hok cur4
      go_wp2_with fail
      go_region_law (first
        | (go_simp; go_at_call 51; refine (below_any (by exact cur5) N (by omega)).mono ?_; rintro e w6 ⟨q, ⟨q0, q1⟩, rfl, hg6, cur6⟩; have bg6 := bg5.only hg6 hBg; have ho6 := ho5.only hg6 (by omega); have hz6 := hg6.size; obtain ⟨F0, F1⟩ := bg6.two)
        | (go_simp; go_at_call 51; refine (below_any (HC.out.drew_) N (by omega)).mono ?_; rintro e w5 ⟨p, ⟨p0, p1⟩, rfl, hg5, cur5⟩; have bg5 := HB.out.drew_.only hg5 hBg; have ho5 := (HO.out.new ((Below.refl _ _).drew)).only hg5 (by omega); have hz5 : wr.heap.size ≤ w5.heap.size := hg5.size; obtain ⟨E0, E1⟩ := bg5.two)
        | (go_simp; go_at_call 77; refine (specAddAttack_any (X := X) (n := X.length) (Lib.hid rfl) HL.out hsm (by exact ho6.rd'.more (by omega))).mono ?_; rintro e w7 ⟨v7, rfl, hown7, hb7⟩; obtain ⟨A7, c7, rfl, _, _, _⟩ := hown7.rd (n := (addL N X p q).length) rfl; have bg7 := bg6.new hb7; obtain ⟨G0, G1⟩ := bg7.two; have f70 := bg7.free 0; have f71 := bg7.free 1))
      all_goals
        have hz7 := hb7.size
        have hgw7 : w.grownBy w7 (some B) := only_then (only_trans (only_trans (only_drew hgw) hg5) hg6) (hb7.mono (by omega))
        have br7 := ((br.drew_.only hg5 (by omega)).only hg6 (by omega)).new hb7
        have cur7 := cur6.below hb7
        go_wp2
        go_roundw
        case rel =>
          refine ⟨j', addL N X p q, .slice A7 (addL N X p q).length c7, by omega, by go_num, (bg7.set 0 _).set 1 _, (br7.far (by show w.heap.size ≠ g; omega) _).far (by show w.heap.size ≠ g; omega) _, ?_, (HOK.out.add N p q).more (by omega), ?_, only_setnew (only_setnew hgw7 (by show w.heap.size ≤ g; omega) _) (by show w.heap.size ≤ g; omega) _, by simp; omega⟩
          · exact ((hown7.setFar (.inl (by show g < _; omega)) _).setFar (.inl (by show g < _; omega)) _).wide (by omega) (by simp)
          · exact cur7.below' (((Below.refl g w7).setCell (Nat.le_refl _) _).setCell (Nat.le_refl _) _) (by omega)
        case measure => simp [intOf] <;> omega
end Go.Proofs.Ytobghogkflgpeaa

/- Contracts of the draws of games: l8Line, DrawCanWin, DrawAnswersTo, DrawBestAnswer, DrawIsLine, DrawWinnerOf. Condition: the code's bytes lie in old memory. -/
namespace Go.Proofs.Ytobghogkflgpeaa
open Go.ChangeShapes Go.WideShapes Go.ChangeAt Go.RowKit
set_option maxRecDepth 100000
set_option maxHeartbeats 8000000 in
theorem line8_any {w : World} {B L : Nat} {A Av : Option Addr} {n c cv : Nat} {N : Int} {X : List (List Int)} (h : Cur w B A n c) (hX : X.length ≤ 1099511627776) (ho : OwnSS w L w.heap.size (.slice Av X.length cv) X) (hBL : B < L) :
    Calls Try.prog 82 #[.pointer (some ⟨B, 0, none⟩), .agg #[.int .i64 N, .slice Av X.length cv]] w (DrewS B A n c w) := by
  obtain ⟨ti, hti, hz0, hz1, hz2⟩ := info_parts IntS_info
  have hB := h.lt
  obtain ⟨Wa, hWa⟩ : ∃ u : World, u = w.alloc (Obj.cells #[Value.int IntKind.i64 N, .slice Av X.length cv] 27) := ⟨_, rfl⟩
  have bx0 := Bx.made w 27 #[Value.int IntKind.i64 N, .slice Av X.length cv]
  have kb0 : Below w.heap.size w (w.alloc (Obj.cells #[Value.int IntKind.i64 N, .slice Av X.length cv] 27)) := alloc_new _ _
  have hsa : Wa.heap.size = w.heap.size + 1 := by rw [hWa]; simp
  rw [← hWa] at bx0 kb0
  have cura := h.below kb0
  have hga : w.grownBy Wa (some B) := only_new kb0 _
  have hoa := ho.new kb0
  have HWa := Lib.hid hWa.symm
  clear hWa kb0 ho h
  go_enter Try.func82, Try.ntmps82
  go_wp2_with fail
  rw [HWa.out]
  refine (below_any cura 6 (by omega)).mono ?_
  rintro e w1 ⟨x, ⟨hx0, hx1⟩, rfl, hg1, cur1⟩
  have bx1 := bx0.only hg1 (by omega)
  have ho1 := hoa.only hg1 hBL
  have hgw1 := only_trans hga hg1
  have hz1' := hg1.size
  have k2 := alloc_new w1 (Obj.cells #[Value.int .i64 x] 3)
  have hrow2 : Row (w1.alloc (Obj.cells #[Value.int .i64 x] 3)) (w.heap.size + 1) (w1.alloc (Obj.cells #[Value.int .i64 x] 3)).heap.size 3 (.slice (some ⟨w1.heap.size, 0, none⟩) 1 1) (ivs [x]) := (Row.made (w := w1) (w.heap.size + 1) #[Value.int .i64 x] 1 3 (by omega) rfl (by decide)).wide (Nat.le_refl _) (by simp)
  have bx2 := bx1.new k2
  have ho2 := ho1.new k2
  have cur2 := cur1.below k2
  have hgw2 := only_then hgw1 (k2.mono hgw1.size)
  obtain ⟨w2, hw2⟩ : ∃ u : World, u = w1.alloc (Obj.cells #[Value.int .i64 x] 3) := ⟨_, rfl⟩
  have hsz2 : w2.heap.size = w1.heap.size + 1 := by rw [hw2]; simp
  rw [← hw2] at bx2 ho2 cur2 hgw2 hrow2 k2
  have HW2 := Lib.hid hw2.symm
  clear hw2 bx0 cura hga hoa HWa bx1 ho1 hgw1 cur1 hg1
  go_wp2_with fail
  rw [HW2.out]
  clear HW2
  refine (below_any cur2 5 (by omega)).mono ?_
  rintro e w3 ⟨y, ⟨hy0, hy1⟩, rfl, hg3, cur3⟩
  obtain ⟨i, rfl⟩ := Int.eq_ofNat_of_zero_le hy0
  have b3 := bx2.only hg3 (by omega)
  have o3 := ho2.only hg3 hBL
  have r3 := (hrow2.out (Out.of_only hg3) (.inr (by omega))).wide (Nat.le_refl _) hg3.size
  have gw3 := only_trans hgw2 hg3
  have z3 := hg3.size
  have hL : L ≤ w.heap.size + 1 ∨ True := .inr trivial
  clear bx2 ho2 hrow2 hgw2 cur2 hg3 k2 hL
  go_wp2_with fail
  go_loopw [5, 6] (fun l i wr => ∃ (j : Nat) (zs : List Int), j ≤ 4 ∧ i = .int .i64 j ∧ 0 < zs.length ∧ zs.length + j ≤ 5 ∧ Row wr (w.heap.size + 1) wr.heap.size 3 l (ivs zs) ∧ Bx wr w.heap.size 27 #[Value.int IntKind.i64 N, .slice Av X.length cv] ∧ OwnSS wr L w.heap.size (.slice Av X.length cv) X ∧ Cur wr B A n c ∧ w.grownBy wr (some B) ∧ w.heap.size + 1 ≤ wr.heap.size) (fun _ i _ => (intOf i).toNat)
  case atStart => exact ⟨i, [x], by omega, rfl, by simp, by simp; omega, r3, b3, o3, cur3, gw3, by omega⟩
  case round =>
    obtain ⟨j, zs, hj, rfl, hzp, hzj, hrow, bg, hov, hcur, hgw, hgz⟩ := hrel
    clear r3 b3 o3 cur3 gw3
    obtain ⟨m, hm⟩ : ∃ m, zs.length = m := ⟨_, rfl⟩
    obtain ⟨p, hp⟩ : ∃ p, p = m - 1 := ⟨_, rfl⟩
    obtain ⟨Al, cl, rfl, hrd, _, _⟩ := hrow.rd (n := m) (by rw [ivs_len, hm])
    rw [hm] at hzp hzj
    have HM := Lib.hid hm
    by_cases hj0 : j = 0
    · subst hj0
      have HRW := Lib.hid hrow
      have HCU := Lib.hid hcur
      clear hrow hcur hrd hm hp
      go_wp2_with fail
      go_ret
      exact ⟨zs, _, by rw [HM.out]; omega, rfl, HRW.out.wide (by omega) (Nat.le_refl _), hgw, HCU.out⟩
    · obtain ⟨j', rfl⟩ : ∃ j', j = j' + 1 := ⟨j - 1, by omega⟩
      obtain ⟨D0, D1⟩ := bg.two
      have hkz : p < zs.length := by omega
      obtain ⟨ad, rfl, hab, hc⟩ := ivs_at hrd hkz
      obtain ⟨q, hq⟩ : ∃ q, q = zs[p] := ⟨_, rfl⟩
      rw [← hq] at hc
      have i0 : (0 : Int) ≤ (p : Int) := by omega
      have i1 : (p : Int) < (m : Int) := by omega
      have i5 : (m : Int) - 1 = (p : Int) := by omega
      have i6 : IntKind.i64.wrap (p : Int) = (p : Int) := IntWalk.i64_in _ (by omega)
      have hmp : m = p + 1 := by omega
      have HMP := Lib.hid hmp
      clear hmp
      have hj0' : (0 : Int) < ((j' + 1 : Nat) : Int) := by omega
      have KE := fun (u : World) (k : Below wr.heap.size wr u) => show Below wr.heap.size wr u ∧ u.cell? ⟨w.heap.size, 0, none⟩ = some (.int .i64 N) ∧ u.cell? ⟨w.heap.size, 1, none⟩ = some (.slice Av X.length cv) ∧ u.cell? (ad.add p) = some (.int .i64 q) from ⟨k, (bg.new k).two.1, (bg.new k).two.2, (k.cell (p := ad.add p) (by rw [add_blk]; exact hab)).trans hc⟩
      have HRX := Lib.hid (hov.rd'.more (B' := wr.heap.size) (by omega))
      have HO := Lib.hid hov
      have HRW := Lib.hid hrow
      have HCU := Lib.hid hcur
      have HGW := Lib.hid hgw
      have HBG := Lib.hid bg
      obtain ⟨M, hM⟩ : ∃ M, M = atk N X q := ⟨_, rfl⟩
      have HAM := Lib.hid hM.symm
      have HLL := Lib.hid (show M.length ≤ 10 by rw [hM]; exact atk_len N X q)
      clear hov hrow hcur hgw bg hq hrd hm hp hM
      clear hkz
      by_cases h0 : M.length = 0
      · have h0' : ((M.length : Int) == 0) = true := by rw [h0]; rfl
        go_wp2_with fail
        go_region_held3 (fun u => Below wr.heap.size wr u ∧ u.cell? ⟨w.heap.size, 0, none⟩ = some (.int .i64 N) ∧ u.cell? ⟨w.heap.size, 1, none⟩ = some (.slice Av X.length cv) ∧ u.cell? (ad.add p) = some (.int .i64 q)) (first | assumption | with_reducible exact KE _ (Below.refl _ _) | with_reducible exact KE _ (Below.refl _ _).drew | with_reducible exact KE _ k9 | with_reducible exact KE _ (Below.drew k9))
          ((go_at_call 70; refine (specAttackersOf_any (N := N) (X := X) (c := cv) (Lib.hid rfl) hX ((HRX.out.below (‹Below wr.heap.size wr _ ∧ _›).1).more (‹Below wr.heap.size wr _ ∧ _›).1.size)).mono ?_; rintro e u9 ⟨v9, rfl, hrow9, hb9⟩; rw [HAM.out] at hrow9; obtain ⟨A9, c9, rfl, hr9, _, _⟩ := hrow9.rd (n := M.length) (ivs_len _); have k9 := trans_new (‹Below wr.heap.size wr _ ∧ _›).1 hb9))
        have HR9 := Lib.hid hrow9
        have z9 := k9.size
        go_wp2_with fail
        go_ret
        exact ⟨zs, _, by rw [HM.out]; omega, rfl, (HRW.out.new k9).wide (by omega) k9.size, only_then HGW.out (k9.mono (by omega)), HCU.out.below k9⟩
      · have h0' : ((M.length : Int) == 0) = false := by rw [beq_eq_false_iff_ne]; omega
        have hML := HLL.out
        go_wp2_with fail
        go_region_held3 (fun u => Below wr.heap.size wr u ∧ u.cell? ⟨w.heap.size, 0, none⟩ = some (.int .i64 N) ∧ u.cell? ⟨w.heap.size, 1, none⟩ = some (.slice Av X.length cv) ∧ u.cell? (ad.add p) = some (.int .i64 q)) (first | assumption | with_reducible exact KE _ (Below.refl _ _) | with_reducible exact KE _ (Below.refl _ _).drew | with_reducible exact KE _ k9 | with_reducible exact KE _ (Below.drew k9))
          ((go_at_call 70; refine (specAttackersOf_any (N := N) (X := X) (c := cv) (Lib.hid rfl) hX ((HRX.out.below (‹Below wr.heap.size wr _ ∧ _›).1).more (‹Below wr.heap.size wr _ ∧ _›).1.size)).mono ?_; rintro e u9 ⟨v9, rfl, hrow9, hb9⟩; rw [HAM.out] at hrow9; obtain ⟨A9, c9, rfl, hr9, _, _⟩ := hrow9.rd (n := M.length) (ivs_len _); have k9 := trans_new (‹Below wr.heap.size wr _ ∧ _›).1 hb9))
        have HR9 := Lib.hid hrow9
        have z9 := k9.size
        have hbz9 : w.heap.size + 1 ≤ u9.heap.size := by omega
        clear hrow9 KE hc
        go_wp2_with fail
        refine (below_any (HCU.out.below k9) (M.length : Int) (by omega)).mono ?_
        rintro e w10 ⟨y, ⟨hy0, hy1⟩, rfl, hg10, cur10⟩
        obtain ⟨r, rfl⟩ := Int.eq_ofNat_of_zero_le hy0
        have hrM : r < M.length := by omega
        have hdz : wr.drew.heap.size = wr.heap.size := rfl
        obtain ⟨lo9, hi9, hr9', hlo9⟩ : ∃ lo9 hi9, Row u9 lo9 hi9 3 (.slice A9 M.length c9) (ivs M) ∧ B < lo9 := ⟨_, _, HR9.out, by omega⟩
        have hr10 := hr9'.out (Out.of_only hg10) (.inr (by omega))
        obtain ⟨a9, rfl, hab9, hc9⟩ := ivs_at hr10.rd' hrM
        obtain ⟨z, hz⟩ : ∃ z, z = M[r] := ⟨_, rfl⟩
        rw [← hz] at hc9
        have row10 := (HRW.out.new k9).out (Out.of_only hg10) (.inr (by omega))
        have z10 := hg10.size
        have hbl : Below w10.heap.size w10 (w10.alloc (Obj.cells #[Value.int .i64 z] 3)) := alloc_new _ _
        have row11 := row10.new hbl
        have hmade := Rd.made w10 #[Value.int .i64 z] 3
        have bx11 := ((HBG.out.new k9).only hg10 (by omega)).new hbl
        have o11 := ((HO.out.new k9).only hg10 hBL).new hbl
        have gw10 := only_trans (only_then HGW.out (k9.mono (by omega))) hg10
        have L1 := Lib.hid (show (ivs zs).length + 1 ≤ maxLen ∧ ((ivs zs).length + 1) * 8 ≤ 140737488355328 by rw [ivs_len, HM.out]; unfold maxLen; omega)
        have HPL := Lib.hid (show (ivs zs).length = m by rw [ivs_len, HM.out])
        have HC10 := Lib.hid cur10
        have HB11 := Lib.hid bx11
        clear hr10 hr9' row10 cur10 bx11 hz D0 D1 hr9 h0'
        go_wp2_with (at_builtin; refine wpList_app rfl (.tmp 29) (.tmp 37) 31 rfl 3 ti _ 8 Try.underlying31 hti hz0 hz1 hz2 rfl rfl rfl row11 rfl hmade (by simp [Value.oneCell']) L1.out.1 L1.out.2 (by simp; omega) ?_; intro v1 w12 row12 ho12)
        have hob := ho12.below (B := w.heap.size + 1) (Nat.le_refl _) (by simp; omega)
        have hzo := hob.size
        have hbo := (hbl.mono (show w.heap.size + 1 ≤ w10.heap.size by omega)).trans hob
        have hbz := hbo.size
        go_roundw
        case rel => exact ⟨j', zs ++ [z], by omega, by go_num, by simp, by rw [List.length_append, HM.out]; simp; omega, by rw [← ivs_snoc_l]; exact row12, HB11.out.out ho12 (by first | exact .inl (by omega) | exact .inr (by omega)), o11.out ho12 (.inl (by omega)), HC10.out.below' hbo (by omega), only_then gw10 (hbo.mono (by omega)), by omega⟩
        case measure => simp [intOf] <;> omega
end Go.Proofs.Ytobghogkflgpeaa

/- Contracts of the draw of HitBy, and of the law's contains and ascends. Condition: the code's bytes lie in old memory. -/
namespace Go.Proofs.Ytobghogkflgpeaa
open Go.ChangeShapes Go.WideShapes Go.ChangeAt Go.RowKit
set_option maxRecDepth 100000
/-- A graph and a set were drawn; nothing old has turned. -/
def DrewGS (w : World) (e : Ending) (w' : World) : Prop :=
  ∃ (N : Int) (X : List (List Int)) (v : Value) (zs : List Int) (u : Value), GOK 10 X ∧ zs.length ≤ 12 ∧ e = .returned (.tuple #[.agg #[.int .i64 N, v], u]) ∧ OwnSS w' w.heap.size w'.heap.size v X ∧ Row w' w.heap.size w'.heap.size 3 u (ivs zs) ∧ Below w.heap.size w w'
/-- The same; the set's row lies behind the graph's. -/
def DrewGS2 (k : Nat) (w : World) (e : Ending) (w' : World) : Prop :=
  ∃ (N : Int) (X : List (List Int)) (v : Value) (zs : List Int) (u : Value) (M : Nat), GOK 10 X ∧ zs.length ≤ k ∧ e = .returned (.tuple #[.agg #[.int .i64 N, v], u]) ∧ w.heap.size ≤ M ∧ M ≤ w'.heap.size ∧ OwnSS w' w.heap.size M v X ∧ Row w' M w'.heap.size 3 u (ivs zs) ∧ Below w.heap.size w w'
theorem contains_any {w : World} {A : Option Addr} {n c : Nat} {a : Int} {S : List Int} (hl : Hid (S.length = n)) (hn : n ≤ 1099511627776) (hr : Rd w w.heap.size A (ivs S)) :
    Calls Try.prog 18 #[.slice A n c, .int .i64 a] w (fun e w' => e = .returned (.bool (S.contains a)) ∧ w = w') := by
  go_enter Try.func18, Try.ntmps18
  go_wp2_with fail
  go_loopw [5] (fun i wr => ∃ k : Nat, k ≤ n ∧ i = .int .i64 k ∧ wr = w ∧ Hid ((S.take k).contains a = false)) (fun i _ => n - (intOf i).toNat)
  case atStart => exact ⟨0, Nat.zero_le _, rfl, rfl, Lib.hid rfl⟩
  case round =>
    obtain ⟨k, hk, rfl, rfl, hno⟩ := hrel
    by_cases hlt : k < n
    · have hkz : k < S.length := by rw [hl.out]; exact hlt
      obtain ⟨ad, rfl, hab, hc⟩ := ivs_at hr hkz
      have i0 : (0 : Int) ≤ (k : Int) := by omega
      by_cases h1 : S[k] = a
      · have HY := Lib.hid (show S.contains a = true by rw [List.contains_iff_mem]; exact h1 ▸ List.getElem_mem hkz)
        rw [h1] at hc
        clear h1
        go_wp2_with fail
        go_ret
        exact ⟨ret_b HY.out.symm, rfl⟩
      · have HN := Lib.hid (show (S.take (k + 1)).contains a = false by
          rw [List.take_succ_eq_append_getElem hkz]
          have := hno.out
          simp only [List.contains_eq_mem, decide_eq_false_iff_not, List.mem_append, List.mem_singleton, not_or] at this ⊢
          exact ⟨this, fun e => h1 e.symm⟩)
        have h1' : (S[k] == a) = false := by simpa using h1
        obtain ⟨z, hz⟩ : ∃ z, z = S[k] := ⟨_, rfl⟩
        rw [← hz] at hc h1 h1'
        clear hz
        go_wp2_with fail
        go_roundw
        case rel => exact ⟨k + 1, by omega, by go_num, trivial, HN⟩
        case measure => simp [intOf]; omega
    · have e : k = n := by omega
      subst e
      have HF := Lib.hid (show S.contains a = false by have := hno.out; rwa [List.take_of_length_le (by rw [hl.out]; exact Nat.le_refl _)] at this)
      go_wp2_with fail
      go_ret
      exact ⟨ret_b HF.out.symm, rfl⟩
theorem ascends_any {w : World} {A : Option Addr} {n c : Nat} {S : List Int} (hl : Hid (S.length = n)) (hn : n ≤ 1099511627776) (ha : S.Pairwise (· < ·)) (hr : Rd w w.heap.size A (ivs S)) :
    Calls Try.prog 36 #[.slice A n c] w (Tells true w) := by
  rw [List.pairwise_iff_getElem] at ha
  have HA := Lib.hid ha
  clear ha
  go_enter Try.func36, Try.ntmps36
  go_wp2_with fail
  go_loopw [3] (fun i wr => ∃ k m : Nat, (k ≤ n ∨ k = 1) ∧ 1 ≤ k ∧ i = .int .i64 k ∧ wr = w.drewN m) (fun i _ => n - (intOf i).toNat)
  case atStart => exact ⟨1, 0, .inr rfl, Nat.le_refl _, rfl, rfl⟩
  case round =>
    obtain ⟨k, m, hk, hk1, rfl, rfl⟩ := hrel
    by_cases hlt : k < n
    · have hkz : k < S.length := by rw [hl.out]; exact hlt
      have hkp : 0 < k := by omega
      have hk2 : k - 1 < S.length := by omega
      obtain ⟨ad, rfl, hab, hc⟩ := ivs_at hr hkz
      obtain ⟨ad', e', hab', hc'⟩ := ivs_at hr hk2
      injection e' with e'
      subst e'
      have hlt2 := HA.out (k - 1) k hk2 hkz (by omega)
      obtain ⟨y, hy⟩ : ∃ y, y = S[k - 1] := ⟨_, rfl⟩
      obtain ⟨z, hz⟩ : ∃ z, z = S[k] := ⟨_, rfl⟩
      rw [← hz] at hc hlt2
      rw [← hy] at hc' hlt2
      have hnge : ¬ z ≤ y := by omega
      have d1 : decide (z ≤ y) = false := decide_eq_false hnge
      clear hy hz hab hab'
      go_wp2
      go_quiet (fail)
      go_wp2
      go_roundw
      case rel => exact ⟨k + 1, _, .inl (by omega), by omega, by go_num, rfl⟩
      case measure => simp [intOf]; omega
    · go_wp2
      go_ret
      exact ⟨rfl, below_drewN (Below.refl _ _) m⟩
end Go.Proofs.Ytobghogkflgpeaa
