/- The draws of chapter 14: l14Any gives a slot of ints; DrawTotalUsed at most five slots in memory of their own. -/
import Derived.Test.YtignchefkihdaaaSlotM3
import Derived.Test.YtignchefkihdaaaSlotB
import Derived.Test.YtignchefkihdaaaDraw3
namespace Go.Proofs.Ytignchefkihdaaa
open Go.ChangeShapes Go.WideShapes Go.ChangeAt Go.RowKit
set_option maxRecDepth 100000
/-- A slot of ints was drawn. -/
def DrawnS (B : Nat) (A : Option Addr) (n c : Nat) (w : World) (e : Ending) (w' : World) : Prop :=
  ∃ x : T3, In3 x ∧ e = .returned (.agg #[.int .i64 x.1, .int .i64 x.2.1, .int .i64 x.2.2]) ∧ w.grownBy w' (some B) ∧ Cur w' B A n c
theorem inW3s {a : Int} (h0 : -1000000 ≤ a) (h1 : a ≤ 1000000) : InW3 a := inW3 (by omega)
theorem bx3_only {w w' : World} {g B : Nat} {t : TypeId} {a b c : Value} (h : Bx w g t #[a, b, c]) (hg : w.grownBy w' (some B)) (hB : B ≠ g) : Bx w' g t #[a, b, c] := h.only3 hg hB
set_option maxHeartbeats 8000000 in
theorem l14Any_end {w w5 : World} {B n c : Nat} {A : Option Addr} {x y z : Int} (hg : w.grownBy w5 (some B)) (hc : Cur w5 B A n c) (hx : InW3 x) (hy : InW3 y) (hz : InW3 z) (hBw : B < w.heap.size) :
    DrawnS B A n c w (.returned (.agg #[.int .i64 x, .int .i64 y, .int .i64 z])) (((w5.setCell ⟨w.heap.size, 0, none⟩ (.int .i64 x)).setCell ⟨w.heap.size, 1, none⟩ (.int .i64 y)).setCell ⟨w.heap.size, 2, none⟩ (.int .i64 z)) := by
  have hb := below_sets3 (Below.refl w.heap.size w5) (g := w.heap.size) (x := .int .i64 x) (y := .int .i64 y) (z := .int .i64 z) (Nat.le_refl _)
  exact ⟨(x, y, z), ⟨hx, hy, hz⟩, rfl, only_then hg hb, hc.below' hb hBw⟩
set_option maxHeartbeats 8000000 in
theorem l14Any_any {w : World} {B n c : Nat} {A : Option Addr} (h : Cur w B A n c) : Calls Try.prog 101 #[.pointer (some ⟨B, 0, none⟩)] w (DrawnS B A n c w) := by
  have hBw := h.lt
  obtain ⟨W1, hW1, bx1, hb1, hz1⟩ := box3 w 53 (.int .i64 0) (.int .i64 0) (.int .i64 0)
  have HW1 := Lib.hid hW1
  have cur1 := h.below hb1
  have g1 := only_new hb1 (some B)
  clear hW1
  go_enter Try.func101, Try.ntmps101
  go_wp2_with fail
  rw [HW1.out]
  go_wp2_with fail
  refine (below_any cur1 5 (by omega)).mono ?_
  rintro e w2 ⟨x, ⟨x0, x1⟩, rfl, hg2, cur2⟩
  have bx2 := bx1.only3 hg2 (by omega)
  have g2 := only_trans g1 hg2
  clear bx1 hb1 cur1 g1 hg2
  go_wp2_with fail
  refine (below_any cur2 15 (by omega)).mono ?_
  rintro e w3 ⟨y, ⟨y0, y1⟩, rfl, hg3, cur3⟩
  have bx3 := bx2.only3 hg3 (by omega)
  have g3 := only_trans g2 hg3
  have ww1 := IntWalk.i64_in (1 + x) (by omega)
  have ww2 := IntWalk.i64_in (1 + y) (by omega)
  have ww3 := IntWalk.i64_in (30 * (1 + y)) (by omega)
  have ww4 := IntWalk.i64_in (30 * (1 + y) + 16) (by omega)
  obtain ⟨W4, hW4, by4, hb4, hz4⟩ := box3 w3 53 (.int .i64 (1 + x)) (.int .i64 (30 * (1 + y))) (.int .i64 0)
  have HW4 := Lib.hid hW4
  have hz3 := g3.size
  have hl3 := bx3.lt
  have bx4 := bx3.new hb4
  have cur4 := cur3.below hb4
  have g4 := only_then g3 (hb4.mono hz3)
  clear hW4 bx2 bx3 cur2 cur3 hg3 g2 g3
  go_wp2_with fail
  rw [HW4.out]
  obtain ⟨a, ha⟩ : ∃ a, a = 1 + x := ⟨_, rfl⟩
  obtain ⟨L, hL⟩ : ∃ L, L = 30 * (1 + y) := ⟨_, rfl⟩
  rw [← ha, ← hL] at by4
  rw [← hL]
  have a0 : 1 ≤ a := by omega
  have a1 : a ≤ 5 := by omega
  have L0 : 30 ≤ L := by omega
  have L1 : L ≤ 450 := by omega
  obtain ⟨G, hG⟩ : ∃ G, G = w3.heap.size := ⟨_, rfl⟩
  rw [← hG] at by4 ⊢
  have hGw : w.heap.size < G := by omega
  have HG := Lib.hid (show W4.heap.size = G + 1 by omega)
  clear ha hL hG ww1 ww2 ww3 ww4 x0 x1 y0 y1 hz4 hz3 hz1
  refine (below_any cur4 (L + 16) (by omega)).mono ?_
  rintro e w5 ⟨z, ⟨z0, z1⟩, rfl, hg5, cur5⟩
  have by5 := by4.only3 hg5 (by omega)
  have bx5 := bx4.only3 hg5 (by omega)
  have g5 := only_trans g4 hg5
  have fr := by5.free 2
  obtain ⟨_, _, cc2⟩ := Bx.cells3 by5 (Below.refl _ _)
  have by6 := by5.set 2 (.int .i64 z)
  have bx6 := bx5.far (p := ⟨G, 2, none⟩) (by show w.heap.size ≠ G; omega) (.int .i64 z)
  have k6 : Below w.heap.size w5 (w5.setCell ⟨G, 2, none⟩ (.int .i64 z)) := (Below.refl _ _).setCell (p := ⟨G, 2, none⟩) (by show w.heap.size ≤ G; omega) _
  obtain ⟨W6, hW6⟩ : ∃ v : World, w5.setCell ⟨G, 2, none⟩ (.int .i64 z) = v := ⟨_, rfl⟩
  have HW6 := Lib.hid hW6
  have by6 : Bx W6 G 53 #[.int .i64 a, .int .i64 L, .int .i64 z] := by rw [← hW6]; exact by6
  rw [hW6] at bx6 k6
  have cur6 := cur5.below' k6 hBw
  have g6 := only_then g5 k6
  clear hW6 bx4 by4 by5 bx5 cur4 cur5 g4 g5 hg5
  go_wp2_with fail
  rw [HW6.out]
  refine (below_any cur6 12 (by omega)).mono ?_
  rintro e w7 ⟨r, ⟨r0, r1⟩, rfl, hg7, cur7⟩
  have by7 := by6.only3 hg7 (by omega)
  have bx7 := bx6.only3 hg7 (by omega)
  have g7 := only_trans g6 hg7
  have hz7 := g7.size
  clear bx6 by6 cur6 g6 hg7 cc2 fr k6
  have f0 := bx7.free 0
  have f1 := bx7.free 1
  have f2 := bx7.free 2
  have q0 := by7.free 0
  have q1 := by7.free 1
  have q2 := by7.free 2
  obtain ⟨p0, p1, p2⟩ := by7.cells3 (Below.refl _ _)
  obtain ⟨t0, t1, t2⟩ := bx7.cells3 (Below.refl _ _)
  by_cases r00 : r = 0
  · subst r00
    have hir := introw_alloc InW3 w7 [0, 99, 100] 3 (by intro z hz; simp at hz; refine inW3 ?_; omega)
    have HIR := Lib.hid hir
    have b8 := alloc_new' w7 (Obj.cells ([0, 99, 100].map (Value.int .i64)).toArray 3)
    have cur8 := cur7.below b8
    have by8 := by7.new b8
    have bx8 := bx7.new b8
    have g8 := only_then g7 (b8.mono hz7)
    clear hir
    go_wp2_with fail
    refine (int_any InW3 cur8 _ 3 (by have := cur7.lt; omega) (by omega) (by omega) HIR.out).mono ?_
    rintro e w9 ⟨d, hd, rfl, hg9, cur9⟩
    have by9 := (by8.only3 hg9 (by omega))
    have bx9 := (bx8.only3 hg9 (by omega))
    have g9 := only_trans g8 hg9
    clear by8 bx8 g8 cur8 b8 by7 bx7 p0 p1 p2 t0 t1 t2 f0 f1 f2 q0 q1 q2
    have u0 := by9.free 0
    obtain ⟨s0, _, _⟩ := by9.cells3 (Below.refl _ _)
    have byA := by9.set 0 (.int .i64 d)
    have bxA := bx9.far (p := ⟨G, 0, none⟩) (by show w.heap.size ≠ G; omega) (.int .i64 d)
    have kA : Below w.heap.size w9 (w9.setCell ⟨G, 0, none⟩ (.int .i64 d)) := (Below.refl _ _).setCell (p := ⟨G, 0, none⟩) (by show w.heap.size ≤ G; omega) _
    obtain ⟨WA, hWA⟩ : ∃ v : World, v = w9.setCell ⟨G, 0, none⟩ (.int .i64 d) := ⟨_, rfl⟩
    have byA : Bx WA G 53 #[.int .i64 d, .int .i64 L, .int .i64 z] := by rw [hWA]; exact byA
    rw [← hWA] at bxA kA
    have curA := cur9.below' kA hBw
    have gA := only_then g9 kA
    obtain ⟨p0, p1, p2⟩ := byA.cells3 (Below.refl _ _)
    obtain ⟨t0, t1, t2⟩ := bxA.cells3 (Below.refl _ _)
    have f0 := bxA.free 0
    have f1 := bxA.free 1
    have f2 := bxA.free 2
    have hWA' := hWA.symm
    clear hWA
    go_wp2_with fail
    obtain ⟨e0, e1, e2⟩ := (bxA.sets3 (x := .int .i64 d) (y := .int .i64 L) (z := .int .i64 z)).cells3 (Below.refl _ _)
    refine bodyPost_ret (v := .agg #[.int .i64 d, .int .i64 L, .int .i64 z]) (by simp [results, Try.results101, go_sem, e0, e1, e2]) rfl ?_
    exact l14Any_end gA curA hd (inW3s (by omega) (by omega)) (inW3s (by omega) (by omega)) hBw
  · by_cases r01 : r = 1
    · subst r01
      have hir := introw_alloc InW3 w7 [0, 1, 1000, 1001] 3 (by intro z hz; simp at hz; refine inW3 ?_; omega)
      have HIR := Lib.hid hir
      have b8 := alloc_new' w7 (Obj.cells ([0, 1, 1000, 1001].map (Value.int .i64)).toArray 3)
      have cur8 := cur7.below b8
      have by8 := by7.new b8
      have bx8 := bx7.new b8
      have g8 := only_then g7 (b8.mono hz7)
      clear hir
      go_wp2_with fail
      refine (int_any InW3 cur8 _ 4 (by have := cur7.lt; omega) (by omega) (by omega) HIR.out).mono ?_
      rintro e w9 ⟨d, hd, rfl, hg9, cur9⟩
      have by9 := (by8.only3 hg9 (by omega))
      have bx9 := (bx8.only3 hg9 (by omega))
      have g9 := only_trans g8 hg9
      clear by8 bx8 g8 cur8 b8 by7 bx7 p0 p1 p2 t0 t1 t2 f0 f1 f2 q0 q1 q2
      have u0 := by9.free 1
      obtain ⟨_, s0, _⟩ := by9.cells3 (Below.refl _ _)
      have byA := by9.set 1 (.int .i64 d)
      have bxA := bx9.far (p := ⟨G, 1, none⟩) (by show w.heap.size ≠ G; omega) (.int .i64 d)
      have kA : Below w.heap.size w9 (w9.setCell ⟨G, 1, none⟩ (.int .i64 d)) := (Below.refl _ _).setCell (p := ⟨G, 1, none⟩) (by show w.heap.size ≤ G; omega) _
      obtain ⟨WA, hWA⟩ : ∃ v : World, v = w9.setCell ⟨G, 1, none⟩ (.int .i64 d) := ⟨_, rfl⟩
      have byA : Bx WA G 53 #[.int .i64 a, .int .i64 d, .int .i64 z] := by rw [hWA]; exact byA
      rw [← hWA] at bxA kA
      have curA := cur9.below' kA hBw
      have gA := only_then g9 kA
      obtain ⟨p0, p1, p2⟩ := byA.cells3 (Below.refl _ _)
      obtain ⟨t0, t1, t2⟩ := bxA.cells3 (Below.refl _ _)
      have f0 := bxA.free 0
      have f1 := bxA.free 1
      have f2 := bxA.free 2
      have hWA' := hWA.symm
      clear hWA
      go_wp2_with fail
      obtain ⟨e0, e1, e2⟩ := (bxA.sets3 (x := .int .i64 a) (y := .int .i64 d) (z := .int .i64 z)).cells3 (Below.refl _ _)
      refine bodyPost_ret (v := .agg #[.int .i64 a, .int .i64 d, .int .i64 z]) (by simp [results, Try.results101, go_sem, e0, e1, e2]) rfl ?_
      exact l14Any_end gA curA (inW3s (by omega) (by omega)) hd (inW3s (by omega) (by omega)) hBw
    · by_cases r02 : r = 2
      · subst r02
        go_wp2_with fail
        refine (raw3_any cur7).mono ?_
        rintro e w9 ⟨d, hd, rfl, hg9, cur9⟩
        have by9 := (by7.only3 hg9 (by omega))
        have bx9 := (bx7.only3 hg9 (by omega))
        have g9 := only_trans g7 hg9
        clear by7 bx7 p0 p1 p2 t0 t1 t2 f0 f1 f2 q0 q1 q2
        have u0 := by9.free 2
        obtain ⟨_, _, s0⟩ := by9.cells3 (Below.refl _ _)
        have byA := by9.set 2 (.int .i64 d)
        have bxA := bx9.far (p := ⟨G, 2, none⟩) (by show w.heap.size ≠ G; omega) (.int .i64 d)
        have kA : Below w.heap.size w9 (w9.setCell ⟨G, 2, none⟩ (.int .i64 d)) := (Below.refl _ _).setCell (p := ⟨G, 2, none⟩) (by show w.heap.size ≤ G; omega) _
        obtain ⟨WA, hWA⟩ : ∃ v : World, v = w9.setCell ⟨G, 2, none⟩ (.int .i64 d) := ⟨_, rfl⟩
        have byA : Bx WA G 53 #[.int .i64 a, .int .i64 L, .int .i64 d] := by rw [hWA]; exact byA
        rw [← hWA] at bxA kA
        have curA := cur9.below' kA hBw
        have gA := only_then g9 kA
        obtain ⟨p0, p1, p2⟩ := byA.cells3 (Below.refl _ _)
        obtain ⟨t0, t1, t2⟩ := bxA.cells3 (Below.refl _ _)
        have f0 := bxA.free 0
        have f1 := bxA.free 1
        have f2 := bxA.free 2
        have hWA' := hWA.symm
        clear hWA
        go_wp2_with fail
        obtain ⟨e0, e1, e2⟩ := (bxA.sets3 (x := .int .i64 a) (y := .int .i64 L) (z := .int .i64 d)).cells3 (Below.refl _ _)
        refine bodyPost_ret (v := .agg #[.int .i64 a, .int .i64 L, .int .i64 d]) (by simp [results, Try.results101, go_sem, e0, e1, e2]) rfl ?_
        exact l14Any_end gA curA (inW3s (by omega) (by omega)) (inW3s (by omega) (by omega)) hd hBw
      · have r00' : (r == 0) = false := by simpa using r00
        have r01' : (r == 1) = false := by simpa using r01
        have r02' : (r == 2) = false := by simpa using r02
        go_wp2_with fail
        obtain ⟨e0, e1, e2⟩ := (bx7.sets3 (x := .int .i64 a) (y := .int .i64 L) (z := .int .i64 z)).cells3 (Below.refl _ _)
        refine bodyPost_ret (v := .agg #[.int .i64 a, .int .i64 L, .int .i64 z]) (by simp [results, Try.results101, go_sem, e0, e1, e2]) rfl ?_
        exact l14Any_end g7 cur7 (inW3s (by omega) (by omega)) (inW3s (by omega) (by omega)) (inW3s (by omega) (by omega)) hBw
end Go.Proofs.Ytignchefkihdaaa
