/- The draws of chapter 14: DrawSpeak, DrawTotalUsed. -/
import Derived.Test.YtignchefkihdaaaDrawClk
import Derived.Deep.RegionWith
import Derived.Deep.RegionLaw
namespace Go.Proofs.Ytignchefkihdaaa
open Go.ChangeShapes Go.WideShapes Go.ChangeAt Go.RowKit
set_option maxRecDepth 100000
theorem res_sets {w w7 : World} {x : T3} (hb : Below w.heap.size w w7) : Below w.heap.size w (((w7.setCell ⟨w.heap.size, 0, none⟩ (.int .i64 x.1)).setCell ⟨w.heap.size, 1, none⟩ (.int .i64 x.2.1)).setCell ⟨w.heap.size, 2, none⟩ (.int .i64 x.2.2)) := below_sets3 hb (Nat.le_refl _)
/-- A slot and an integer were drawn. -/
def DrewSI (w : World) (e : Ending) (w' : World) : Prop :=
  ∃ (x : T3) (d : Int), In3 x ∧ InW3 d ∧ e = .returned (.tuple #[.agg #[.int .i64 x.1, .int .i64 x.2.1, .int .i64 x.2.2], .int .i64 d]) ∧ Below w.heap.size w w'
set_option maxHeartbeats 8000000 in
theorem drawSpeak {w : World} {A : Option Addr} {n c : Nat} (h : Code8 w A n) : Calls Try.prog 36 #[.slice A n c] w (DrewSI w) := by
  obtain ⟨W1, hW1, bx1, hb1, hz1⟩ := box3 w 53 (.int .i64 0) (.int .i64 0) (.int .i64 0)
  have HW1 := Lib.hid hW1
  have h1 := h.below hb1
  have H8 := Lib.hid h
  clear hW1
  go_enter Try.func36, Try.ntmps36
  go_wp2_with fail
  rw [HW1.out]
  go_wp2_with fail
  with_reducible refine (new_any h1).mono ?_
  rintro e w2 ⟨rfl, hb2, cur2⟩
  have bx2 := bx1.new hb2
  have hl2 := cur2.lt
  have k2 := hb1.trans (hb2.mono hb1.size)
  obtain ⟨C, hC⟩ : ∃ C, C = W1.heap.size := ⟨_, rfl⟩
  rw [← hC] at cur2 hl2 ⊢
  have hCw : w.heap.size < C := by omega
  clear h h1 bx1 hb1 hb2 hC
  go_wp2_with fail
  with_reducible refine (l14Any_any cur2).mono ?_
  rintro e w3 ⟨x, hx, rfl, hg3, cur3⟩
  have bx3 := bx2.only3 hg3 (by omega)
  have k3 := cur_below k2 hg3 (by omega)
  have hs3 := hg3.size
  have hs2 := bx2.lt
  have hl3 := cur3.lt
  obtain ⟨W4, hW4, by4, hb4, hz4⟩ := box3 w3 53 (.int .i64 x.1) (.int .i64 x.2.1) (.int .i64 x.2.2)
  have HW4 := Lib.hid hW4
  have bx4 := bx3.new hb4
  have cur4 := cur3.below hb4
  have k4 := k3.trans (hb4.mono k3.size)
  obtain ⟨G, hG⟩ : ∃ G, G = w3.heap.size := ⟨_, rfl⟩
  clear hW4 bx2 bx3 cur2 cur3 hg3 k2 k3
  go_wp2_with fail
  rw [HW4.out]
  rw [← hG] at by4 hz4 hs3 ⊢
  have hGC : C < G := by omega
  have hlz : W4.heap.size = G + 1 := by omega
  have HX := Lib.hid hx
  clear hG HW4 hx hz1 hl2 hs3 hs2 HW1 hb4 hz4
  obtain ⟨a, ha⟩ : ∃ a, x.1 = a := ⟨_, rfl⟩
  obtain ⟨b, hb⟩ : ∃ a, x.2.1 = a := ⟨_, rfl⟩
  obtain ⟨d, hd⟩ : ∃ a, x.2.2 = a := ⟨_, rfl⟩
  have HE := Lib.hid (show x = (a, b, d) by rw [← ha, ← hb, ← hd])
  rw [ha, hb, hd] at by4
  rw [ha, hb, hd]
  clear ha hb hd
  have zs : ∀ z ∈ ([0, 1, 20, 500, 9223372036854775807, -1] : List Int), InW3 z := by intro z hz; simp at hz; refine inW3 ?_; omega
  obtain ⟨X, hX⟩ : ∃ X : Array Value, X = #[Value.int .i64 0, .int .i64 1, .int .i64 20, .int .i64 500, .int .i64 9223372036854775807, .int .i64 (-1)] := ⟨_, rfl⟩
  have hXX : ([0, 1, 20, 500, 9223372036854775807, -1].map (Value.int .i64)).toArray = X := hX.symm
  have hGw : w.heap.size < G := by omega
  have hGw' : G ≠ w.heap.size := by omega
  have hBC : C ≠ w.heap.size := by omega
  have mk : ∀ (U : World) (y0 y1 y2 : Value), Bx U w.heap.size 53 #[y0, y1, y2] → Bx U G 53 #[.int .i64 a, .int .i64 b, .int .i64 d] → Cur U C A n c → Below w.heap.size w U → ∀ (U' : World), ((U.setCell ⟨w.heap.size, 0, none⟩ (.int .i64 a)).setCell ⟨w.heap.size, 1, none⟩ (.int .i64 b)).setCell ⟨w.heap.size, 2, none⟩ (.int .i64 d) = U' →
      Bx U' w.heap.size 53 #[.int .i64 a, .int .i64 b, .int .i64 d] ∧ Bx U' G 53 #[.int .i64 a, .int .i64 b, .int .i64 d] ∧ Cur U' C A n c ∧ Below w.heap.size w U' ∧ U'.heap.size = U.heap.size := by
    intro U y0 y1 y2 h1 h2 h3 h4 U' e
    subst e
    have hq := below_sets3 (Below.refl w.heap.size U) (g := w.heap.size) (x := .int .i64 a) (y := .int .i64 b) (z := .int .i64 d) (Nat.le_refl _)
    exact ⟨Bx.sets3 h1, ((h2.far (p := ⟨w.heap.size, 0, none⟩) hGw' _).far (p := ⟨w.heap.size, 1, none⟩) hGw' _).far (p := ⟨w.heap.size, 2, none⟩) hGw' _, h3.sets3 H8.out (Nat.le_refl _) hBC, h4.trans hq, by simp [World.setCell]⟩
  have irX : ∀ U : World, IntRow InW3 (U.alloc (.cells X 3)) U.heap.size 6 := fun U => by rw [← hXX]; exact introw_alloc InW3 U _ 3 zs
  have irS : ∀ (U : World) (y0 y1 y2 : Value), IntRow InW3 U W4.heap.size 6 → IntRow InW3 (((U.setCell ⟨w.heap.size, 0, none⟩ y0).setCell ⟨w.heap.size, 1, none⟩ y1).setCell ⟨w.heap.size, 2, none⟩ y2) W4.heap.size 6 := by
    intro U y0 y1 y2 ⟨h1, h2⟩
    refine ⟨by simpa [World.setCell] using h1, fun j hj => ?_⟩
    obtain ⟨z, hz, hc⟩ := h2 j hj
    refine ⟨z, hz, ?_⟩
    rw [World.cell?_setCell_other _ _ _ _ (by simp), World.cell?_setCell_other _ _ _ _ (by simp), World.cell?_setCell_other _ _ _ _ (by simp)]
    exact hc
  have bx4d : Bx W4.drew w.heap.size 53 #[.int .i64 0, .int .i64 0, .int .i64 0] := bx4
  have by4d : Bx W4.drew G 53 #[.int .i64 a, .int .i64 b, .int .i64 d] := by4
  have kA : Below W4.heap.size W4 (W4.alloc (Obj.cells X 3)).drew := ((Below.refl _ _).alloc (Nat.le_refl _) _).drew
  have k4A := k4.trans (kA.mono k4.size)
  -- the call where nothing was stored ahead of it
  have bxA := bx4.new kA
  have byA := by4.new kA
  have irA : IntRow InW3 (W4.alloc (Obj.cells X 3)).drew W4.heap.size 6 := irX W4
  have HA := Lib.hid (And.intro bxA (And.intro byA (And.intro (cur4.below kA) (And.intro irA k4A))))
  -- the store first
  obtain ⟨V, hV⟩ : ∃ V : World, ((W4.setCell ⟨w.heap.size, 0, none⟩ (.int .i64 a)).setCell ⟨w.heap.size, 1, none⟩ (.int .i64 b)).setCell ⟨w.heap.size, 2, none⟩ (.int .i64 d) = V := ⟨_, rfl⟩
  obtain ⟨v1, v2, v3, v4, v5⟩ := mk W4 _ _ _ bx4 by4 cur4 k4 V hV
  have kV : Below V.heap.size V (V.alloc (Obj.cells X 3)).drew := (alloc_new' V _).drew
  have HB := Lib.hid (And.intro (v1.new kV) (And.intro (v2.new kV) (And.intro (v3.below kV) (And.intro (show IntRow InW3 (V.alloc (Obj.cells X 3)).drew W4.heap.size 6 by have q := irX V; rw [v5] at q; exact q) (v4.trans (kV.mono v4.size))))))
  have HV := Lib.hid hV
  -- the store between the row and the call
  obtain ⟨Z, hZ⟩ : ∃ V : World, (((W4.alloc (Obj.cells X 3)).drew.setCell ⟨w.heap.size, 0, none⟩ (.int .i64 a)).setCell ⟨w.heap.size, 1, none⟩ (.int .i64 b)).setCell ⟨w.heap.size, 2, none⟩ (.int .i64 d) = V := ⟨_, rfl⟩
  obtain ⟨z1, z2, z3, z4, z5⟩ := mk _ _ _ _ bxA byA (cur4.below kA) k4A Z hZ
  have HZ := Lib.hid (And.intro z1 (And.intro z2 (And.intro z3 (And.intro (show IntRow InW3 Z W4.heap.size 6 by rw [← hZ]; exact irS _ _ _ _ irA) z4))))
  have HZE := Lib.hid hZ
  obtain ⟨p0, p1, p2⟩ := by4d.cells3 (Below.refl _ _)
  obtain ⟨p3, p4, p5⟩ := byA.cells3 (Below.refl _ _)
  have f0 := bx4d.free 0
  have f1 := bx4d.free 1
  have f2 := bx4d.free 2
  obtain ⟨t0, t1, t2⟩ := bx4d.cells3 (Below.refl _ _)
  have f3 := bxA.free 0
  have f4 := bxA.free 1
  have f5 := bxA.free 2
  obtain ⟨t3, t4, t5⟩ := bxA.cells3 (Below.refl _ _)
  have hCl : W4.heap.size ≠ C := by omega
  have hGC' : C ≠ G := by omega
  have HMK := Lib.hid mk
  rw [hX] at p3 p4 p5 f3 f4 f5 t3 t4 t5 HA HZE HB

  clear hV hZ v1 v2 v3 v4 v5 z1 z2 z3 z4 z5 bxA byA irA kA kV k4A irX irS mk zs hXX hX bx4d by4d bx4 by4 cur4 hlz
  go_region_law (first
    | (go_simp; go_at_call 96; (with_reducible refine (int_any InW3 HA.out.2.2.1 W4.heap.size 6 hCl (by omega) (by omega) HA.out.2.2.2.1).mono ?_); rintro e w7 ⟨q, hq, rfl, hg7, cur7⟩; have bx7 := HA.out.1.only3 hg7 hBC; have by7 := HA.out.2.1.only3 hg7 hGC'; have k7 := cur_below HA.out.2.2.2.2 hg7 (Nat.le_of_lt hCw); obtain ⟨r0, r1, r2⟩ := by7.cells3 (Below.refl _ _); obtain ⟨s0, s1, s2⟩ := bx7.cells3 (Below.refl _ _); have g0 := bx7.free 0; have g1 := bx7.free 1; have g2 := bx7.free 2; have HK := Lib.hid (below_sets3 k7 (g := w.heap.size) (x := .int .i64 a) (y := .int .i64 b) (z := .int .i64 d) (Nat.le_refl _)); have HBX := Lib.hid (bx7.sets3 (x := .int .i64 a) (y := .int .i64 b) (z := .int .i64 d)))
    | (go_simp; go_at_call 96; rw [HV.out]; (with_reducible refine (int_any InW3 HB.out.2.2.1 W4.heap.size 6 hCl (by omega) (by omega) HB.out.2.2.2.1).mono ?_); rintro e w7 ⟨q, hq, rfl, hg7, cur7⟩; have bx7 := HB.out.1.only3 hg7 hBC; have k7 := cur_below HB.out.2.2.2.2 hg7 (Nat.le_of_lt hCw); have HK := Lib.hid k7; have HBX := Lib.hid bx7)
    | (go_simp; go_at_call 96; rw [HZE.out]; (with_reducible refine (int_any InW3 HZ.out.2.2.1 W4.heap.size 6 hCl (by omega) (by omega) HZ.out.2.2.2.1).mono ?_); rintro e w7 ⟨q, hq, rfl, hg7, cur7⟩; have bx7 := HZ.out.1.only3 hg7 hBC; have k7 := cur_below HZ.out.2.2.2.2 hg7 (Nat.le_of_lt hCw); have HK := Lib.hid k7; have HBX := Lib.hid bx7))
  all_goals
    go_wp2
    obtain ⟨e0, e1, e2⟩ := HBX.out.cells3 (Below.refl _ _)
    refine bodyPost_ret (v := .tuple #[.agg #[.int .i64 a, .int .i64 b, .int .i64 d], .int .i64 q]) (by simp [results, Try.results36, go_sem, e0, e1, e2]) rfl ?_
    exact ⟨x, q, HX.out, hq, by rw [HE.out], HK.out⟩
/-- Slots in memory of their own, and an integer. -/
def DrewSSI (w : World) (e : Ending) (w' : World) : Prop := ∃ (v : Value) (X : List T3) (q : Int), e = .returned (.tuple #[v, .int .i64 q]) ∧ Row3 w' w.heap.size w'.heap.size 53 v X ∧ X.length ≤ 5 ∧ Below w.heap.size w w'
set_option maxHeartbeats 8000000 in
theorem drawTotal {w : World} {A : Option Addr} {n c : Nat} (h : Code8 w A n) : Calls Try.prog 42 #[.slice A n c] w (DrewSSI w) := by
  obtain ⟨i0, hi, ii0, ii1, ii2⟩ := info_parts SlotS_info
  go_enter Try.func42, Try.ntmps42
  go_wp2_with fail
  with_reducible refine (new_any h).mono ?_
  rintro e w1 ⟨rfl, hb1, cur1⟩
  have hl1 := cur1.lt
  have hb0 : Below w1.heap.size w1 (w1.alloc (Obj.cells #[] 53)) := (Below.refl _ _).alloc (Nat.le_refl _) _
  have hrow0 : Row3 (w1.alloc (Obj.cells #[] 53)) w1.heap.size (w1.alloc (Obj.cells #[] 53)).heap.size 53 (.slice (some ⟨w1.heap.size, 0, none⟩) 0 0) [] := (Row3.made (w := w1) w1.heap.size #[] 0 (Nat.le_refl _) rfl rfl (Nat.zero_le _)).wide (Nat.le_refl _) (by simp)
  have cur0 := cur1.below hb0
  have g0 := only_new hb0 (some w.heap.size)
  go_wp2_with fail
  with_reducible refine (below_any cur0 6 (by omega)).mono ?_
  rintro e w2 ⟨x, ⟨x0, x1⟩, rfl, hg2, cur2⟩
  obtain ⟨m, rfl⟩ := Int.eq_ofNat_of_zero_le x0
  have row2 := row3_only hrow0 hg2 hl1
  have g2 := only_trans g0 hg2
  clear hb0 hrow0 cur0 g0 cur1 hg2
  go_wp2_with fail
  go_loopw [5, 6] (fun s i wr => ∃ (k : Nat) (X : List T3), i = .int .i64 k ∧ X.length + k ≤ 5 ∧ Row3 wr w1.heap.size wr.heap.size 53 s X ∧ w1.grownBy wr (some w.heap.size) ∧ Cur wr w.heap.size A n c) (fun _ i _ => (intOf i).toNat)
  case atStart => exact ⟨m, [], rfl, by simp; omega, row2, g2, cur2⟩
  case round =>
    obtain ⟨k, X, rfl, hxk, hrow, hg, hcur⟩ := hrel
    clear row2 g2 cur2
    by_cases hk0 : k = 0
    · subst hk0
      obtain ⟨Av, cv, rfl, _, _, _⟩ := hrow.rd (n := X.length) rfl
      have HROW := Lib.hid hrow
      clear hrow
      go_wp2_with fail
      with_reducible refine (below_any hcur 5 (by omega)).mono ?_
      rintro e w3 ⟨q, ⟨q0, q1⟩, rfl, hg3, cur3⟩
      have ww := IntWalk.i64_in (1 + q) (by omega)
      go_wp2_with fail
      refine bodyPost_ret (v := .tuple #[.slice Av X.length cv, .int .i64 (1 + q)]) (by simp [results, Try.results42, go_sem]) rfl ?_
      exact ⟨_, X, 1 + q, rfl, (row3_only HROW.out hg3 hl1).wide hb1.size (Nat.le_refl _), by omega, cur_below hb1 (only_trans hg hg3) (Nat.le_refl _)⟩
    · obtain ⟨j, rfl⟩ : ∃ j, k = j + 1 := ⟨k - 1, by omega⟩
      have hkp : (0 : Int) < ((j + 1 : Nat) : Int) := by omega
      have HROW := Lib.hid hrow
      clear hrow
      go_wp2_with fail
      with_reducible refine (l14Any_any hcur).mono ?_
      rintro e w3 ⟨x, hx, rfl, hg3, cur3⟩
      have row3 := row3_only HROW.out hg3 hl1
      have g3 := only_trans hg hg3
      have hz3 := g3.size
      have b3 := alloc_new' w3 (Obj.cells #[.int .i64 x.1, .int .i64 x.2.1, .int .i64 x.2.2] 53)
      have HMADE := Lib.hid (show Rd _ _ _ (t3s [x]) from Rd.made w3 #[.int .i64 x.1, .int .i64 x.2.1, .int .i64 x.2.2] 53)
      have HROW3 := Lib.hid (row3_new row3 b3)
      have HCUR3 := Lib.hid (cur3.below b3)
      have G3 := Lib.hid (only_then g3 (b3.mono hz3))
      clear row3 cur3 g3 b3 hcur hg hg3
      go_wp2_with (at_builtin; (refine wpList_app3 (m := 1) rfl (.tmp 16) (.tmp 19) 60 rfl 53 i0 _ 24 Try.underlying60 hi ii0 ii1 ii2 rfl rfl rfl HROW3.out rfl HMADE.out (by unfold maxLen; omega) (by omega) (by simp; omega) ?_; intro v9 w9 hrow9 ho9))
      have hb9 : Below w1.heap.size (w3.alloc (Obj.cells #[.int .i64 x.1, .int .i64 x.2.1, .int .i64 x.2.2] 53)) w9 := ho9.below (Nat.le_refl _) (by simp; omega)
      go_roundw
      case rel => exact ⟨j, X ++ [x], by go_num, by simp; omega, hrow9, only_then G3.out hb9, HCUR3.out.below' hb9 hl1⟩
      case measure => simp [intOf] <;> omega
end Go.Proofs.Ytignchefkihdaaa
