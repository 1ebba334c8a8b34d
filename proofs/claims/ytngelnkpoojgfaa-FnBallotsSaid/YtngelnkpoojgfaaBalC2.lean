/- Contracts of the code of chapter 16: teamSums.plus, sumsOf, VotesFor, SumFor, IsSplit, Decision. Condition: the slice has at most 2^40 elements. -/
import Derived.Test.YtngelnkpoojgfaaBalC
import Derived.Test.YtngelnkpoojgfaaBits
namespace Go.Proofs.Ytngelnkpoojgfaa
open Go.ChangeShapes Go.WideShapes Go.ChangeAt Go.RowKit
set_option maxRecDepth 100000
theorem Bx.cells4 {w w' : World} {g : Nat} {t : TypeId} {a b c d : Value} (h : Bx w g t #[a, b, c, d]) (hb : Below w.heap.size w w') : w'.cell? ⟨g, 0, none⟩ = some a ∧ w'.cell? ⟨g, 1, none⟩ = some b ∧ w'.cell? ⟨g, 2, none⟩ = some c ∧ w'.cell? ⟨g, 3, none⟩ = some d := by
  have k := h.new hb
  refine ⟨?_, ?_, ?_, ?_⟩ <;> (rw [cell_of_row _ _ _ _ _ _ k]; rfl)
/-- A box of four cells, made. -/
theorem box4 (w : World) (t : TypeId) (a b c d : Value) : ∃ W1 : World, w.alloc (Obj.cells #[a, b, c, d] t) = W1 ∧ Bx W1 w.heap.size t #[a, b, c, d] ∧ Below w.heap.size w W1 ∧ W1.heap.size = w.heap.size + 1 :=
  ⟨_, rfl, Bx.made _ _ _, alloc_new' _ _, by simp⟩
theorem Bx.sets4 {w : World} {g : Nat} {t : TypeId} {a b c d x y z u : Value} (h : Bx w g t #[a, b, c, d]) : Bx ((((w.setCell ⟨g, 0, none⟩ x).setCell ⟨g, 1, none⟩ y).setCell ⟨g, 2, none⟩ z).setCell ⟨g, 3, none⟩ u) g t #[x, y, z, u] := (((h.set 0 x).set 1 y).set 2 z).set 3 u
theorem below_sets4 {B : Nat} {w0 w : World} {g : Nat} {x y z u : Value} (h : Below B w0 w) (hg : B ≤ g) : Below B w0 ((((w.setCell ⟨g, 0, none⟩ x).setCell ⟨g, 1, none⟩ y).setCell ⟨g, 2, none⟩ z).setCell ⟨g, 3, none⟩ u) := (((h.setCell hg x).setCell hg y).setCell hg z).setCell hg u
/-- One store into the first of three boxes: the new world, a letter. -/
theorem one_set {B : Nat} {w0 w : World} {g : Nat} {t s : TypeId} {R C D : Array Value} (i : Nat) (v : Value) (hS : Bx w g t R) (hC : Bx w (g + 1) s C) (hD : Bx w (g + 1 + 1) t D) (hb : Below B w0 w) (hg : B ≤ g) :
    ∃ W : World, w.setCell ⟨g, i, none⟩ v = W ∧ Bx W g t (R.setIfInBounds i v) ∧ Bx W (g + 1) s C ∧ Bx W (g + 1 + 1) t D ∧ Below B w0 W :=
  ⟨_, rfl, hS.set i v, hC.far (p := ⟨g, i, none⟩) (by show g + 1 ≠ g; omega) v, hD.far (p := ⟨g, i, none⟩) (by show g + 1 + 1 ≠ g; omega) v, hb.setCell (p := ⟨g, i, none⟩) hg v⟩
set_option maxHeartbeats 4000000 in
theorem plus_any {w : World} {v1 v2 p1 p2 a b c : Int} (hx : blB (a, b, c) = true) (hv1 : 0 ≤ v1 ∧ v1 ≤ 1000000) (hv2 : 0 ≤ v2 ∧ v2 ≤ 1000000) (hp1 : 0 ≤ p1 ∧ p1 ≤ 1000000) (hp2 : 0 ≤ p2 ∧ p2 ≤ 1000000) :
    Calls Try.prog 96 #[.agg #[.int .i64 v1, .int .i64 v2, .int .i64 p1, .int .i64 p2], .agg #[.int .i64 a, .int .i64 b, .int .i64 c]] w (fun e w' => e = .returned (.agg #[.int .i64 (v1 + if ofB (a, b, c) = 1 then 1 else 0), .int .i64 (v2 + if ofB (a, b, c) = 2 then 1 else 0), .int .i64 (p1 + b), .int .i64 (p2 + c)]) ∧ Below w.heap.size w w') := by
  obtain ⟨⟨b0, b1⟩, ⟨c0, c1⟩, hbc⟩ := bl_parts hx
  simp only at b0 b1 c0 c1 hbc
  have w1 := IntWalk.i64_in (v1 + 1) (by omega)
  have w2 := IntWalk.i64_in (v2 + 1) (by omega)
  have w3 := IntWalk.i64_in (p1 + b) (by omega)
  have w4 := IntWalk.i64_in (p2 + c) (by omega)
  obtain ⟨O, hO⟩ : ∃ O, ofB (a, b, c) = O := ⟨_, rfl⟩
  have HO := Lib.hid hO
  have ho2 : O = 1 ∨ O = 2 := by rw [← hO]; exact of_two _
  rw [hO]
  clear hO hx
  obtain ⟨W1, hW1, bx1, hb1, hz1⟩ := box4 w 80 (.int .i64 v1) (.int .i64 v2) (.int .i64 p1) (.int .i64 p2)
  obtain ⟨W2, hW2, bx2, hb2, hz2⟩ := box3 W1 51 (.int .i64 a) (.int .i64 b) (.int .i64 c)
  obtain ⟨W3, hW3, bx3, hb3, hz3⟩ := box4 W2 80 (.int .i64 0) (.int .i64 0) (.int .i64 0) (.int .i64 0)
  have HW := Lib.hid (show ((w.alloc (Obj.cells #[Value.int .i64 v1, .int .i64 v2, .int .i64 p1, .int .i64 p2] 80)).alloc (Obj.cells #[Value.int .i64 a, .int .i64 b, .int .i64 c] 51)).alloc (Obj.cells #[Value.int .i64 0, .int .i64 0, .int .i64 0, .int .i64 0] 80) = W3 by rw [hW1, hW2, hW3])
  have hb := (hb1.trans (hb2.mono hb1.size)).trans (hb3.mono (hb1.trans (hb2.mono hb1.size)).size)
  have q1 := (bx1.new hb2).new hb3
  have q2 := bx2.new hb3
  rw [hz1] at q2
  rw [show W2.heap.size = w.heap.size + 1 + 1 by omega] at bx3
  obtain ⟨z0, z1, z2⟩ := q2.cells3 (Below.refl _ _)
  clear hW1 hW2 hW3 hz1 hz2 hz3 bx1 bx2 hb1 hb2 hb3
  go_enter Try.func96, Try.ntmps96
  go_wp2_with fail
  rw [HW.out]
  try (go_wp2_with fail)
  refine (choiceOf_any hbc).mono ?_
  rintro e w5 ⟨rfl, r⟩
  rw [HO.out]
  have qb := hb.trans (r.mono hb.size)
  have s0 := q1.new r
  have e0 := q2.new r
  have d0 := bx3.new r
  clear hb r q1 q2 bx3
  rcases ho2 with rfl | rfl
  · obtain ⟨Wa, hWa, sa, ea, da, ba⟩ := one_set 0 (.int .i64 (v1 + 1)) s0 e0 d0 qb (Nat.le_refl _)
    have sa : Bx Wa w.heap.size 80 #[.int .i64 (v1 + 1), .int .i64 v2, .int .i64 p1, .int .i64 p2] := sa
    obtain ⟨Wb, hWb, sb, eb, db, bb⟩ := one_set 2 (.int .i64 (p1 + b)) sa ea da ba (Nat.le_refl _)
    have sb : Bx Wb w.heap.size 80 #[.int .i64 (v1 + 1), .int .i64 v2, .int .i64 (p1 + b), .int .i64 p2] := sb
    obtain ⟨Wc, hWc, sc, ec, dc, bc⟩ := one_set 3 (.int .i64 (p2 + c)) sb eb db bb (Nat.le_refl _)
    have sc : Bx Wc w.heap.size 80 #[.int .i64 (v1 + 1), .int .i64 v2, .int .i64 (p1 + b), .int .i64 (p2 + c)] := sc
    obtain ⟨m0, m1, m2, m3⟩ := s0.cells4 (Below.refl _ _)
    obtain ⟨n0, n1, n2, n3⟩ := sa.cells4 (Below.refl _ _)
    obtain ⟨k0, k1, k2, k3⟩ := sb.cells4 (Below.refl _ _)
    obtain ⟨l0, l1, l2, l3⟩ := sc.cells4 (Below.refl _ _)
    obtain ⟨g0, g1, g2⟩ := ea.cells3 (Below.refl _ _)
    obtain ⟨h0, h1, h2⟩ := eb.cells3 (Below.refl _ _)
    have f0 := s0.free 0
    have f1 := sa.free 2
    have f2 := sb.free 3
    obtain ⟨j0, j1, j2, j3⟩ := dc.cells4 (Below.refl _ _)
    have x0 := dc.free 0
    have x1 := dc.free 1
    have x2 := dc.free 2
    have x3 := dc.free 3
    go_wp2_with fail
    have hq := below_sets4 bc (g := w.heap.size + 1 + 1) (x := .int .i64 (v1 + 1)) (y := .int .i64 v2) (z := .int .i64 (p1 + b)) (u := .int .i64 (p2 + c)) (by omega)
    obtain ⟨y0, y1, y2, y3⟩ := (dc.sets4 (x := .int .i64 (v1 + 1)) (y := .int .i64 v2) (z := .int .i64 (p1 + b)) (u := .int .i64 (p2 + c))).cells4 (Below.refl _ _)
    refine bodyPost_ret (v := .agg #[.int .i64 (v1 + 1), .int .i64 v2, .int .i64 (p1 + b), .int .i64 (p2 + c)]) (by simp [results, Try.results96, go_sem, y0, y1, y2, y3]) rfl ⟨?_, hq⟩
    simp
  
  · obtain ⟨Wa, hWa, sa, ea, da, ba⟩ := one_set 1 (.int .i64 (v2 + 1)) s0 e0 d0 qb (Nat.le_refl _)
    have sa : Bx Wa w.heap.size 80 #[.int .i64 v1, .int .i64 (v2 + 1), .int .i64 p1, .int .i64 p2] := sa
    obtain ⟨Wb, hWb, sb, eb, db, bb⟩ := one_set 2 (.int .i64 (p1 + b)) sa ea da ba (Nat.le_refl _)
    have sb : Bx Wb w.heap.size 80 #[.int .i64 v1, .int .i64 (v2 + 1), .int .i64 (p1 + b), .int .i64 p2] := sb
    obtain ⟨Wc, hWc, sc, ec, dc, bc⟩ := one_set 3 (.int .i64 (p2 + c)) sb eb db bb (Nat.le_refl _)
    have sc : Bx Wc w.heap.size 80 #[.int .i64 v1, .int .i64 (v2 + 1), .int .i64 (p1 + b), .int .i64 (p2 + c)] := sc
    obtain ⟨m0, m1, m2, m3⟩ := s0.cells4 (Below.refl _ _)
    obtain ⟨n0, n1, n2, n3⟩ := sa.cells4 (Below.refl _ _)
    obtain ⟨k0, k1, k2, k3⟩ := sb.cells4 (Below.refl _ _)
    obtain ⟨l0, l1, l2, l3⟩ := sc.cells4 (Below.refl _ _)
    obtain ⟨g0, g1, g2⟩ := ea.cells3 (Below.refl _ _)
    obtain ⟨h0, h1, h2⟩ := eb.cells3 (Below.refl _ _)
    have f0 := s0.free 1
    have f1 := sa.free 2
    have f2 := sb.free 3
    obtain ⟨j0, j1, j2, j3⟩ := dc.cells4 (Below.refl _ _)
    have x0 := dc.free 0
    have x1 := dc.free 1
    have x2 := dc.free 2
    have x3 := dc.free 3
    go_wp2_with fail
    have hq := below_sets4 bc (g := w.heap.size + 1 + 1) (x := .int .i64 v1) (y := .int .i64 (v2 + 1)) (z := .int .i64 (p1 + b)) (u := .int .i64 (p2 + c)) (by omega)
    obtain ⟨y0, y1, y2, y3⟩ := (dc.sets4 (x := .int .i64 v1) (y := .int .i64 (v2 + 1)) (z := .int .i64 (p1 + b)) (u := .int .i64 (p2 + c))).cells4 (Below.refl _ _)
    refine bodyPost_ret (v := .agg #[.int .i64 v1, .int .i64 (v2 + 1), .int .i64 (p1 + b), .int .i64 (p2 + c)]) (by simp [results, Try.results96, go_sem, y0, y1, y2, y3]) rfl ⟨?_, hq⟩
    simp
end Go.Proofs.Ytngelnkpoojgfaa
