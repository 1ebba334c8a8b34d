/- The law of chapter 8: whoever can win stands, the best answer is an answer, lines end, and 'first' says that nobody attacks the last claim. No conditions but that the code is small. -/
import Derived.Test.YtobghogkflgpeaaMg26
import Derived.Test.YtobghogkflgpeaaMg28
import Derived.Test.YtobghogkflgpeaaMg22
import Derived.Test.YtobghogkflgpeaaMg31
import Derived.Test.YtobghogkflgpeaaWinC
import Derived.Test.YtobghogkflgpeaaLoopC
import Derived.Test.YtobghogkflgpeaaGmMath
import Derived.Deep.RegionHeld3
import Derived.Deep.DeepCutAuto
import Derived.BigQuiet
import Derived.Deep.Quiet
namespace Go.Proofs.Ytobghogkflgpeaa
open Go.ChangeShapes Go.WideShapes Go.ChangeAt Go.RowKit
set_option maxRecDepth 100000
theorem getD_atG {L : List Int} {k : Nat} (h : k < L.length) : L.getD k 0 = L[k] := by simp [List.getD, h]
theorem win_cases (N : Int) (X : List (List Int)) (L : List Int) : (winT N X L = [] ∧ lineB N X L = false) ∨ (winT N X L = frsT ∧ lineB N X L = true) ∨ (winT N X L = sctT ∧ lineB N X L = true) ∨ (winT N X L = nonT ∧ lineB N X L = true) := by
  by_cases hb : lineB N X L = true
  · by_cases h0 : (winL N X L).length = 0
    · by_cases h2 : L.length % 2 = 0
      · exact .inr (.inr (.inl ⟨winT_sct hb h0 h2, hb⟩))
      · exact .inr (.inl ⟨winT_frs hb h0 h2, hb⟩)
    · exact .inr (.inr (.inr ⟨winT_none hb (by omega), hb⟩))
  · have hb : lineB N X L = false := by simpa using hb
    exact .inl ⟨winT_no hb, hb⟩
/-- A drawn graph in a block of its own. -/
theorem game_box {W w : World} {N : Int} {v : Value} {X : List (List Int)} (hok : GOK 10 X) (hown : OwnSS w W.heap.size w.heap.size v X) (hb : Below W.heap.size W w) :
    ∃ Av cv, v = .slice Av X.length cv ∧ Bx (w.alloc (Obj.cells #[.int .i64 N, v] 27)) w.heap.size 27 #[.int .i64 N, v] ∧ RdSS (w.alloc (Obj.cells #[.int .i64 N, v] 27)) (w.alloc (Obj.cells #[.int .i64 N, v] 27)).heap.size Av X ∧ Below W.heap.size W (w.alloc (Obj.cells #[.int .i64 N, v] 27)) ∧ Hid (X.length ≤ 1099511627776) := by
  obtain ⟨Av, cv, rfl, hrd, _, _⟩ := hown.rd (n := X.length) rfl
  have k := alloc_new w (Obj.cells #[.int .i64 N, .slice Av X.length cv] 27)
  exact ⟨Av, cv, rfl, Bx.made _ _ _, rdSS_new hrd k, hb.trans (k.mono hb.size), Lib.hid (by have := hok.1; omega)⟩
/-- A graph in a block of its own and a row of claims. -/
structure GB (W : World) (g : Nat) (N : Int) (A Al : Option Addr) (n c : Nat) (X : List (List Int)) (L : List Int) (w : World) : Prop where
  bx : Bx w g 27 #[.int .i64 N, .slice A n c]
  gr : RdSS w w.heap.size A X
  rl : Rd w w.heap.size Al (ivs L)
  hb : Below W.heap.size W w
theorem GB.new {W : World} {g : Nat} {N : Int} {A Al : Option Addr} {n c : Nat} {X : List (List Int)} {L : List Int} {w w' : World} (h : GB W g N A Al n c X L w) (r : Below w.heap.size w w') : GB W g N A Al n c X L w' :=
  ⟨h.bx.new r, rdSS_new h.gr r, rd_new h.rl r, h.hb.trans (r.mono h.hb.size)⟩
set_option maxHeartbeats 20000000 in
theorem games_core {W : World} {A : Option Addr} {n c : Nat} (h8 : Code8 W A n) (hn : n ≤ 1048576) :
    Calls Try.prog 5 #[.slice A n c] W (fun e W' => e = .returned (.bool true) ∧ Below W.heap.size W W') := by
  go_enter Try.func5, Try.ntmps5
  go_wp2_with fail
  refine (big_no hn).mono ?_
  rintro e w1 ⟨rfl, rfl⟩
  go_wp2_with fail
  refine (drawCan h8).mono ?_
  rintro e w1 ⟨N, X, v, a, hok, rfl, hown, hb1⟩
  obtain ⟨Av, cv, rfl, bx, gr, hb, HXL⟩ := game_box (N := N) hok hown hb1
  obtain ⟨w2, hw2⟩ : ∃ z : World, z = w1.alloc (Obj.cells #[Value.int .i64 N, .slice Av X.length cv] 27) := ⟨_, rfl⟩
  rw [← hw2] at bx gr hb
  have HW2 := Lib.hid hw2.symm
  obtain ⟨g, hg⟩ : ∃ g, g = w1.heap.size := ⟨_, rfl⟩
  rw [← hg] at bx
  have HG := Lib.hid hg.symm
  obtain ⟨D0, D1⟩ := bx.two
  have HCG := Lib.hid (canW_grd N X a)
  obtain ⟨y, hy⟩ : ∃ y, y = canW N X a := ⟨_, rfl⟩
  have HCW := Lib.hid hy.symm
  have HCN : Hid ((grd N X).contains a = y) := Lib.hid (by rw [hy, HCG.out])
  have KE := fun (u : World) (q : Below w2.heap.size w2 u) => show Below w2.heap.size w2 u ∧ u.cell? ⟨g, 0, none⟩ = some (.int .i64 N) ∧ u.cell? ⟨g, 1, none⟩ = some (.slice Av X.length cv) from ⟨q, (bx.new q).two.1, (bx.new q).two.2⟩
  clear hw2 hown hb1 hok hg hy HCG
  go_wp2_with fail
  rw [HW2.out, HG.out]
  clear HW2 HG
  go_region_held3 (fun u => Below w2.heap.size w2 u ∧ u.cell? ⟨g, 0, none⟩ = some (.int .i64 N) ∧ u.cell? ⟨g, 1, none⟩ = some (.slice Av X.length cv)) (first | assumption | with_reducible exact KE _ (Below.refl _ _) | with_reducible exact KE _ (Below.refl _ _).drew | with_reducible exact KE _ k9 | with_reducible exact KE _ k8 | with_reducible exact KE _ k9.drew | with_reducible exact KE _ k8.drew)
    (first
      | (go_at_call 10; (with_reducible refine (impCanWin_any (N := N) (X := X) (a := a) (Lib.hid rfl) HXL.out (rdSS_new gr (‹Below w2.heap.size w2 _ ∧ _›).1)).mono ?_); rintro e u9 ⟨he, hb9⟩; rw [HCW.out] at he; subst he; have k9 := trans_new (‹Below w2.heap.size w2 _ ∧ _›).1 hb9)
      | (go_at_call 19; (with_reducible refine (impGrounded_any (N := N) (X := X) (Lib.hid rfl) HXL.out (rdSS_new gr (‹Below w2.heap.size w2 _ ∧ _›).1)).mono ?_); rintro e u8 ⟨v8, rfl, hrow8, hb8⟩; obtain ⟨A8, c8, rfl, hr8, _, _⟩ := hrow8.rd (n := (grd N X).length) (ivs_len _); have k8 := trans_new (‹Below w2.heap.size w2 _ ∧ _›).1 hb8)
      | (go_at_call 18; (with_reducible refine (contains_any (S := grd N X) (a := a) (Lib.hid rfl) (by have := grd_len N X; omega) hr8).mono ?_); rintro e u7 ⟨he, rfl⟩; rw [HCN.out] at he; subst he))
  have hbX := hb.trans (k8.mono hb.size)
  have h9 := h8.below hbX
  clear KE D0 D1 bx gr HCW HCN hr8 hrow8 hb8 k8 k9 hb9 hb
  have hyy : (y != y) = false := by cases y <;> rfl
  go_wp2_with fail
  refine (drawBest h9).mono ?_
  rintro e w3 ⟨N2, X2, v2, zs, u, x, hok, hzl, rfl, hown, hrow, hb3⟩
  obtain ⟨Au, cu, rfl, hru, hcu, _⟩ := hrow.rd (n := zs.length) (ivs_len zs)
  obtain ⟨Av2, cv2, rfl, bx, gr, hb, HXL2⟩ := game_box (N := N2) hok hown hb3
  replace hru := rd_new hru (alloc_new w3 (Obj.cells #[Value.int .i64 N2, .slice Av2 X2.length cv2] 27))
  obtain ⟨w4, hw4⟩ : ∃ z : World, z = w3.alloc (Obj.cells #[Value.int .i64 N2, .slice Av2 X2.length cv2] 27) := ⟨_, rfl⟩
  rw [← hw4] at bx gr hb hru
  have HW4 := Lib.hid hw4.symm
  obtain ⟨g2, hg2⟩ : ∃ g, g = w3.heap.size := ⟨_, rfl⟩
  rw [← hg2] at bx
  have HG2 := Lib.hid hg2.symm
  obtain ⟨D0, D1⟩ := bx.two
  have HZL := Lib.hid (show zs.length ≤ 1099511627776 by omega)
  have HBI := Lib.hid (fun h => best_in (N := N2) (X := X2) (U := zs) (c := x) h)
  clear hw4 hown hb3 hok hg2 hrow
  go_wp2_with fail
  rw [HW4.out, HG2.out]
  clear HW4 HG2
  refine (impBestAnswer_any (N := N2) (X := X2) (S := zs) (a := x) (c := cv2) (c' := cu) (Lib.hid rfl) HXL2.out gr (Lib.hid rfl) HZL.out hru).mono ?_
  rintro e w5 ⟨rfl, r⟩
  obtain ⟨b, hbb⟩ : ∃ b, b = bestB N2 X2 zs x := ⟨_, rfl⟩
  rw [← hbb] at HBI ⊢
  replace bx := bx.new r
  replace gr := rdSS_new gr r
  replace hru := rd_new hru r
  have hbY := hbX.trans ((hb.trans (r.mono hb.size)).mono hbX.size)
  clear D0 D1 r hbb hb
  obtain ⟨D0, D1⟩ := bx.two
  go_upto_region 8 with fail
  go_cut [47] from 37 to 47 (fun c wx => c = .bool false ∧ Below W.heap.size W wx)
  case first =>
    by_cases h0 : 0 ≤ b
    · have HIN := Lib.hid (HBI.out h0)
      have HAN := Lib.hid (show (ansL N2 X2 zs x).length ≤ 10 by unfold ansL; exact Nat.le_trans (List.length_filter_le _ _) (atk_len N2 X2 x))
      go_wp2_with fail
      refine (impAnswersTo_any (N := N2) (X := X2) (S := zs) (a := x) (c := cv2) (c' := cu) (Lib.hid rfl) HXL2.out gr (Lib.hid rfl) HZL.out hru).mono ?_
      rintro e u1 ⟨v1, rfl, hrow1, r⟩
      obtain ⟨A1, c1, rfl, hr1, _, _⟩ := hrow1.rd (n := (ansL N2 X2 zs x).length) (ivs_len _)
      have hbZ := hbY.trans (r.mono hbY.size)
      clear hrow1 r
      go_wp2_with fail
      refine (contains_any (S := ansL N2 X2 zs x) (a := b) (Lib.hid rfl) (by have := HAN.out; omega) hr1).mono ?_
      rintro e u2 ⟨rfl, rfl⟩
      rw [List.contains_iff_mem.2 HIN.out]
      go_wp2_with fail
      go_meet
      case rel => exact ⟨rfl, hbZ⟩
    · go_wp2_with fail
      go_meet
      case rel => exact ⟨rfl, hbY⟩
  case rest =>
    clear D0 D1 bx gr hru hbY hbX HBI h9
    obtain ⟨rfl, hbX⟩ := hcut
    have h9 := h8.below hbX
    go_wp2_with fail
    refine (drawWin h9).mono ?_
    rintro e w6 ⟨N, X, v, L, u, M, hok, hll, rfl, hM1, hM2, hown, hrow, hb3⟩
    obtain ⟨Au, cu, rfl, hru, hcu, _⟩ := hrow.rd (n := L.length) (ivs_len L)
    obtain ⟨Av, cv, rfl, bx, gr, hb, HXL⟩ := game_box (N := N) hok (hown.wide (Nat.le_refl _) hM2) hb3
    replace hru := rd_new hru (alloc_new w6 (Obj.cells #[Value.int .i64 N, .slice Av X.length cv] 27))
    obtain ⟨w7, hw7⟩ : ∃ z : World, z = w6.alloc (Obj.cells #[Value.int .i64 N, .slice Av X.length cv] 27) := ⟨_, rfl⟩
    rw [← hw7] at bx gr hb hru
    have HW7 := Lib.hid hw7.symm
    obtain ⟨g, hg⟩ : ∃ g, g = w6.heap.size := ⟨_, rfl⟩
    rw [← hg] at bx
    have HG := Lib.hid hg.symm
    have hd : GB W g N Av Au X.length cv X L w7 := ⟨bx, gr, hru, hbX.trans (hb.mono hbX.size)⟩
    obtain ⟨m, hm⟩ : ∃ m, L.length = m := ⟨_, rfl⟩
    rw [hm] at hcu hll ⊢
    have HM := Lib.hid hm
    have HCU := Lib.hid hcu
    have HML := Lib.hid (show m ≤ 1099511627776 by omega)
    have HWC := Lib.hid (win_cases N X L)
    have HLL := Lib.hid (fun h => line_len (N := N) (X := X) (L := L) h)
    have HFR := Lib.hid (fun h => winT_first (N := N) (X := X) (L := L) h)
    obtain ⟨D0, D1⟩ := hd.bx.two
    have hmm : (0 : Int) ≤ (m : Int) := by omega
    clear hw7 hg bx gr hru hb hb3 hok hown hrow hM1 hM2 hm hcu h9 hbX
    go_wp2_with fail
    rw [HW7.out, HG.out]
    clear HW7 HG
    refine (impWinnerOf_any (N := N) (X := X) (L := L) (c := cv) (c' := cu) (Lib.hid rfl) HXL.out hd.gr HM.out HML.out hd.rl HCU.out).mono ?_
    rintro e w8 ⟨he, r⟩
    replace hd := hd.new r
    clear D0 D1 r
    obtain ⟨D0, D1⟩ := hd.bx.two
    rcases HWC.out with ⟨hT, hB⟩ | ⟨hT, hB⟩ | ⟨hT, hB⟩ | ⟨hT, hB⟩
    · rw [hT] at he
      have he' : e = .returned (.string ⟨#[]⟩) := he
      clear he hT
      subst he'
      have HB := Lib.hid hB
      clear hB HWC HLL HFR
      go_wp2_with (go_at_call 24; refine (impIsLine_any (N := N) (X := X) (L := L) (c := cv) (c' := cu) (Lib.hid rfl) HXL.out hd.gr HM.out HML.out hd.rl HCU.out).mono ?_; rintro e u1 ⟨he, r⟩; rw [HB.out] at he; subst he; clear D0 D1; replace hd := hd.new r; clear r; obtain ⟨D0, D1⟩ := hd.bx.two)
      have KE := fun (u : World) (q : Below u1.heap.size u1 u) => show Below u1.heap.size u1 u ∧ True from ⟨q, trivial⟩
      refine wp_region_quiet (C := fun u => Below u1.heap.size u1 u ∧ True) (by kernel_rfl) (by kernel_rfl) (KE _ (Below.refl _ _).drew) ?_
      rw [List.toList_toArray]
      go_big_quiet_want
      go_big_quiet_op
      go_big_quiet_on
      go_big_quiet_want
      apply Exists.intro
      refine ⟨fun u hu => ?_, ?_⟩
      · obtain ⟨hu0, hu1⟩ := hu
        unfold Oper.quietAt
        go_simp
        try rfl
      simp only [Act.put, List.setIfInBounds_toArray, List.set_cons_zero, List.set_cons_succ]
      go_big_quiet_on
      go_big_quiet_want
      go_big_quiet_op
      go_big_quiet_on
      repeat go_big_quiet_skip
      go_big_quiet_want
      apply Exists.intro
      refine ⟨fun u hu => ?_, ?_⟩
      · obtain ⟨hu0, hu1⟩ := hu
        unfold Oper.quietAt
        go_simp
        try rfl
      simp only [Act.put, List.setIfInBounds_toArray, List.set_cons_zero, List.set_cons_succ]
      go_big_quiet_on
      go_big_quiet_want
      go_big_quiet_op
      go_big_quiet_on
      refine wpQuiet_nil ?_
      rintro u ⟨r, _⟩
      replace hd := hd.new r
      go_wp2_with fail
      go_ret
      exact ⟨rfl, hd.hb⟩
    · rw [hT] at he
      have he' : e = .returned (.string ⟨#[102, 105, 114, 115, 116]⟩) := he
      obtain ⟨hgb, hlen⟩ := HLL.out hB
      have HB := Lib.hid hB
      obtain ⟨G, hG⟩ : ∃ G, 2 * N = G := ⟨_, rfl⟩
      have HLG := Lib.hid (show lonG N X = G by unfold lonG; rw [if_pos hgb, hG])
      rw [hG, HM.out] at hlen
      obtain ⟨hodd, hatk⟩ := HFR.out hT
      rw [HM.out] at hodd hatk
      have HAT := Lib.hid hatk
      have HOD := Lib.hid hodd
      clear hodd hatk
      clear he hT hgb hB HWC HLL HFR hG
      subst he'
      go_wp2_with (first | (go_at_call 24; refine (impIsLine_any (N := N) (X := X) (L := L) (c := cv) (c' := cu) (Lib.hid rfl) HXL.out hd.gr HM.out HML.out hd.rl HCU.out).mono ?_; rintro e u1 ⟨he, r⟩; rw [HB.out] at he; subst he; clear D0 D1; replace hd := hd.new r; clear r; obtain ⟨D0, D1⟩ := hd.bx.two) | (go_at_call 25; refine (impLongestGame_any (N := N) (X := X) (c := cv) (Lib.hid rfl) HXL.out hd.gr).mono ?_; rintro e u1 ⟨he, r⟩; rw [HLG.out] at he; subst he; clear D0 D1; replace hd := hd.new r; clear r; obtain ⟨D0, D1⟩ := hd.bx.two))
      have hodd := HOD.out
      obtain ⟨p, hp⟩ : ∃ p, p = m - 1 := ⟨_, rfl⟩
      have hkz : p < L.length := by rw [HM.out]; omega
      obtain ⟨ad, rfl, hab, hc⟩ := ivs_at hd.rl hkz
      obtain ⟨l, hl⟩ : ∃ l, l = L[p] := ⟨_, rfl⟩
      have HA0 : Hid ((atk N X l).length = 0) := Lib.hid (by have := HAT.out; rw [← hp, getD_atG hkz, ← hl] at this; exact this)
      rw [← hl] at hc
      have i0 : (0 : Int) ≤ (p : Int) := by omega
      have i1 : (p : Int) < (m : Int) := by omega
      have i5 : (m : Int) - 1 = (p : Int) := by omega
      have i6 : IntKind.i64.wrap (p : Int) = (p : Int) := IntWalk.i64_in _ (by have := HML.out; omega)
      have i7 : (m : Int).tmod 2 = 1 := by rw [Int.tmod_eq_emod_of_nonneg hmm]; omega
      have KE := fun (u : World) (k : Below u1.heap.size u1 u) => show Below u1.heap.size u1 u ∧ u.cell? ⟨g, 0, none⟩ = some (.int .i64 N) ∧ u.cell? ⟨g, 1, none⟩ = some (.slice Av X.length cv) ∧ u.cell? (ad.add p) = some (.int .i64 l) from ⟨k, (hd.bx.new k).two.1, (hd.bx.new k).two.2, (k.cell (p := ad.add p) (by rw [add_blk]; exact hab)).trans hc⟩
      clear hodd hl hp HAT HOD
      go_region_held3 (fun u => Below u1.heap.size u1 u ∧ u.cell? ⟨g, 0, none⟩ = some (.int .i64 N) ∧ u.cell? ⟨g, 1, none⟩ = some (.slice Av X.length cv) ∧ u.cell? (ad.add p) = some (.int .i64 l)) (first | assumption | with_reducible exact KE _ (Below.refl _ _) | with_reducible exact KE _ (Below.refl _ _).drew | with_reducible exact KE _ k9 | with_reducible exact KE _ (Below.drew k9))
        ((go_at_call 26; refine (impAttackersOf_any (N := N) (X := X) (a := l) (c := cv) (Lib.hid rfl) HXL.out (rdSS_new hd.gr (‹Below u1.heap.size u1 _ ∧ _›).1)).mono ?_; rintro e u9 ⟨v9, rfl, hrow9, hb9⟩; obtain ⟨A9, c9, rfl, hr9, _, _⟩ := hrow9.rd (n := 0) (by rw [ivs_len]; exact HA0.out); have k9 := trans_new (‹Below u1.heap.size u1 _ ∧ _›).1 hb9))
      go_wp2_with fail
      go_ret
      exact ⟨rfl, (hd.new k9).hb⟩
    · rw [hT] at he
      have he' : e = .returned (.string ⟨#[115, 101, 99, 111, 110, 100]⟩) := he
      obtain ⟨hgb, hlen⟩ := HLL.out hB
      have HB := Lib.hid hB
      obtain ⟨G, hG⟩ : ∃ G, 2 * N = G := ⟨_, rfl⟩
      have HLG := Lib.hid (show lonG N X = G by unfold lonG; rw [if_pos hgb, hG])
      rw [hG, HM.out] at hlen
      clear he hT hgb hB HWC HLL HFR hG
      subst he'
      go_wp2_with (first | (go_at_call 24; refine (impIsLine_any (N := N) (X := X) (L := L) (c := cv) (c' := cu) (Lib.hid rfl) HXL.out hd.gr HM.out HML.out hd.rl HCU.out).mono ?_; rintro e u1 ⟨he, r⟩; rw [HB.out] at he; subst he; clear D0 D1; replace hd := hd.new r; clear r; obtain ⟨D0, D1⟩ := hd.bx.two) | (go_at_call 25; refine (impLongestGame_any (N := N) (X := X) (c := cv) (Lib.hid rfl) HXL.out hd.gr).mono ?_; rintro e u1 ⟨he, r⟩; rw [HLG.out] at he; subst he; clear D0 D1; replace hd := hd.new r; clear r; obtain ⟨D0, D1⟩ := hd.bx.two))
      have KE := fun (u : World) (q : Below u1.heap.size u1 u) => show Below u1.heap.size u1 u ∧ True from ⟨q, trivial⟩
      refine wp_region_quiet (C := fun u => Below u1.heap.size u1 u ∧ True) (by kernel_rfl) (by kernel_rfl) (KE _ (Below.refl _ _).drew) ?_
      rw [List.toList_toArray]
      go_big_quiet_want
      go_big_quiet_op
      go_big_quiet_on
      go_big_quiet_want
      apply Exists.intro
      refine ⟨fun u hu => ?_, ?_⟩
      · obtain ⟨hu0, hu1⟩ := hu
        unfold Oper.quietAt
        go_simp
        try rfl
      simp only [Act.put, List.setIfInBounds_toArray, List.set_cons_zero, List.set_cons_succ]
      go_big_quiet_on
      go_big_quiet_want
      go_big_quiet_op
      go_big_quiet_on
      repeat go_big_quiet_skip
      go_big_quiet_want
      apply Exists.intro
      refine ⟨fun u hu => ?_, ?_⟩
      · obtain ⟨hu0, hu1⟩ := hu
        unfold Oper.quietAt
        go_simp
        try rfl
      simp only [Act.put, List.setIfInBounds_toArray, List.set_cons_zero, List.set_cons_succ]
      go_big_quiet_on
      go_big_quiet_want
      go_big_quiet_op
      go_big_quiet_on
      refine wpQuiet_nil ?_
      rintro u ⟨r, _⟩
      replace hd := hd.new r
      go_wp2_with fail
      go_ret
      exact ⟨rfl, hd.hb⟩
    · rw [hT] at he
      have he' : e = .returned (.string ⟨#[110, 111, 110, 101]⟩) := he
      obtain ⟨hgb, hlen⟩ := HLL.out hB
      have HB := Lib.hid hB
      obtain ⟨G, hG⟩ : ∃ G, 2 * N = G := ⟨_, rfl⟩
      have HLG := Lib.hid (show lonG N X = G by unfold lonG; rw [if_pos hgb, hG])
      rw [hG, HM.out] at hlen
      clear he hT hgb hB HWC HLL HFR hG
      subst he'
      go_wp2_with (first | (go_at_call 24; refine (impIsLine_any (N := N) (X := X) (L := L) (c := cv) (c' := cu) (Lib.hid rfl) HXL.out hd.gr HM.out HML.out hd.rl HCU.out).mono ?_; rintro e u1 ⟨he, r⟩; rw [HB.out] at he; subst he; clear D0 D1; replace hd := hd.new r; clear r; obtain ⟨D0, D1⟩ := hd.bx.two) | (go_at_call 25; refine (impLongestGame_any (N := N) (X := X) (c := cv) (Lib.hid rfl) HXL.out hd.gr).mono ?_; rintro e u1 ⟨he, r⟩; rw [HLG.out] at he; subst he; clear D0 D1; replace hd := hd.new r; clear r; obtain ⟨D0, D1⟩ := hd.bx.two))
      have KE := fun (u : World) (q : Below u1.heap.size u1 u) => show Below u1.heap.size u1 u ∧ True from ⟨q, trivial⟩
      refine wp_region_quiet (C := fun u => Below u1.heap.size u1 u ∧ True) (by kernel_rfl) (by kernel_rfl) (KE _ (Below.refl _ _).drew) ?_
      rw [List.toList_toArray]
      go_big_quiet_want
      go_big_quiet_op
      go_big_quiet_on
      go_big_quiet_want
      apply Exists.intro
      refine ⟨fun u hu => ?_, ?_⟩
      · obtain ⟨hu0, hu1⟩ := hu
        unfold Oper.quietAt
        go_simp
        try rfl
      simp only [Act.put, List.setIfInBounds_toArray, List.set_cons_zero, List.set_cons_succ]
      go_big_quiet_on
      go_big_quiet_want
      go_big_quiet_op
      go_big_quiet_on
      repeat go_big_quiet_skip
      go_big_quiet_want
      apply Exists.intro
      refine ⟨fun u hu => ?_, ?_⟩
      · obtain ⟨hu0, hu1⟩ := hu
        unfold Oper.quietAt
        go_simp
        try rfl
      simp only [Act.put, List.setIfInBounds_toArray, List.set_cons_zero, List.set_cons_succ]
      go_big_quiet_on
      go_big_quiet_want
      go_big_quiet_op
      go_big_quiet_on
      refine wpQuiet_nil ?_
      rintro u ⟨r, _⟩
      replace hd := hd.new r
      go_wp2_with fail
      go_ret
      exact ⟨rfl, hd.hb⟩
end Go.Proofs.Ytobghogkflgpeaa
