/- Contract of the model Speak. No conditions but the integers' own. -/
import Derived.Test.YtamocldcfbjfgaaSlotM2
import Derived.Test.YtamocldcfbjfgaaBits
namespace Go.Proofs.Ytamocldcfbjfgaa
open Go.ChangeShapes Go.WideShapes Go.ChangeAt Go.RowKit
set_option maxRecDepth 100000
theorem Bx.sets3 {w : World} {g : Nat} {t : TypeId} {a b c x y z : Value} (h : Bx w g t #[a, b, c]) : Bx (((w.setCell ⟨g, 0, none⟩ x).setCell ⟨g, 1, none⟩ y).setCell ⟨g, 2, none⟩ z) g t #[x, y, z] := ((h.set 0 x).set 1 y).set 2 z
theorem below_sets3 {B : Nat} {w0 w : World} {g : Nat} {x y z : Value} (h : Below B w0 w) (hg : B ≤ g) : Below B w0 (((w.setCell ⟨g, 0, none⟩ x).setCell ⟨g, 1, none⟩ y).setCell ⟨g, 2, none⟩ z) := ((h.setCell hg x).setCell hg y).setCell hg z
theorem spk_no {s : T3} {n : Int} (h : (slB s && decide (0 ≤ n)) = false) : spkK s n = 0 := by unfold spkK; rw [h]; rfl
theorem spk_yes {s : T3} {n : Int} (h : slB s = true) (hn : 0 ≤ n) : spkK s n = mn n (s.2.1 + 15 - s.2.2) := by unfold spkK mn; rw [h, decide_eq_true hn, Bool.true_and, if_pos rfl]; split <;> omega
theorem spkS_no {s : T3} {n : Int} (h : (slB s && decide (0 ≤ n)) = false) : spkS s n = s := by unfold spkS; rw [spk_no h]; simp
section
variable {w : World} {a b c n : Int}
set_option maxHeartbeats 2000000 in
theorem specSpeak_any : Calls Try.prog 18 #[.agg #[.int .i64 a, .int .i64 b, .int .i64 c], .int .i64 n] w (fun e w' => e = .returned (.tuple #[.agg #[.int .i64 (spkS (a, b, c) n).1, .int .i64 (spkS (a, b, c) n).2.1, .int .i64 (spkS (a, b, c) n).2.2], .int .i64 (spkK (a, b, c) n)]) ∧ Below w.heap.size w w') := by
  obtain ⟨W1, hW1, bx1, hb1, hz1⟩ := box3 w 25 (.int .i64 a) (.int .i64 b) (.int .i64 c)
  obtain ⟨W2, hW2, bx2, hb2, hz2⟩ := box3 W1 25 (.int .i64 0) (.int .i64 0) (.int .i64 0)
  have HW := Lib.hid (show (w.alloc (Obj.cells #[Value.int .i64 a, .int .i64 b, .int .i64 c] 25)).alloc (Obj.cells #[Value.int .i64 0, .int .i64 0, .int .i64 0] 25) = W2 by rw [hW1, hW2])
  have b1 := bx1.new hb2
  have hb := hb1.trans (hb2.mono hb1.size)
  obtain ⟨c0, c1, c2⟩ := b1.cells3 (Below.refl _ _)
  rw [hz1] at bx2
  clear hW1 hW2 bx1 hb1 hb2
  go_enter Try.func18, Try.ntmps18
  go_wp2_with fail
  rw [HW.out]
  go_wp2_with fail
  refine (specIsSlot_any).mono ?_
  rintro e u ⟨he, r⟩
  have q := hb.trans (r.mono hb.size)
  obtain ⟨d0, d1, d2⟩ := b1.cells3 r
  have bu := bx2.new r
  obtain ⟨g0, g1, g2⟩ := bu.cells3 (Below.refl _ _)
  have f0 := bu.free 0
  have f1 := bu.free 1
  have f2 := bu.free 2
  cases hs : slB (a, b, c) with
  | false =>
    rw [hs] at he
    subst he
    have HV := Lib.hid (spk_no (s := (a, b, c)) (n := n) (by rw [hs]; rfl))
    have HS := Lib.hid (spkS_no (s := (a, b, c)) (n := n) (by rw [hs]; rfl))
    clear hs
    go_wp2_with fail
    have hq := below_sets3 q (g := w.heap.size + 1) (x := .int .i64 a) (y := .int .i64 b) (z := .int .i64 c) (by omega)
    obtain ⟨e0, e1, e2⟩ := (bu.sets3 (x := .int .i64 a) (y := .int .i64 b) (z := .int .i64 c)).cells3 (Below.refl _ _)
    refine bodyPost_ret (v := .tuple #[.agg #[.int .i64 a, .int .i64 b, .int .i64 c], .int .i64 0]) (by simp [results, Try.results18, go_sem, e0, e1, e2]) rfl ⟨?_, hq⟩
    rw [HV.out, HS.out]
  | true =>
    rw [hs] at he
    subst he
    by_cases hn : n < 0
    · have HV := Lib.hid (spk_no (s := (a, b, c)) (n := n) (by rw [hs, decide_eq_false (by omega)]; rfl))
      have HS := Lib.hid (spkS_no (s := (a, b, c)) (n := n) (by rw [hs, decide_eq_false (by omega)]; rfl))
      clear hs
      go_wp2_with fail
      have hq := below_sets3 q (g := w.heap.size + 1) (x := .int .i64 a) (y := .int .i64 b) (z := .int .i64 c) (by omega)
      obtain ⟨e0, e1, e2⟩ := (bu.sets3 (x := .int .i64 a) (y := .int .i64 b) (z := .int .i64 c)).cells3 (Below.refl _ _)
      refine bodyPost_ret (v := .tuple #[.agg #[.int .i64 a, .int .i64 b, .int .i64 c], .int .i64 0]) (by simp [results, Try.results18, go_sem, e0, e1, e2]) rfl ⟨?_, hq⟩
      rw [HV.out, HS.out]
    · obtain ⟨_, ⟨p1, p2⟩, k1, k2⟩ := sl_parts hs
      simp only at p1 p2 k1 k2
      have HV := Lib.hid (spk_yes (s := (a, b, c)) hs (show 0 ≤ n by omega))
      have hk0 : 0 ≤ mn n (b + 15 - c) ∧ mn n (b + 15 - c) ≤ 1015 := by unfold mn; split <;> omega
      obtain ⟨K, hK⟩ : ∃ K, K = mn n (b + 15 - c) := ⟨_, rfl⟩
      rw [← hK] at hk0
      have HK := Lib.hid hK.symm
      have HV2 := Lib.hid (show spkK (a, b, c) n = K by rw [HV.out, hK])
      have HS2 := Lib.hid (show spkS (a, b, c) n = (a, b, c + K) by unfold spkS; rw [HV2.out])
      clear hs hK
      go_wp2_with fail
      refine (smin_any n (b + 15 - c) _).mono ?_
      rintro e u2 ⟨rfl, rfl⟩
      rw [HK.out]
      have m0 := (b1.new r).free 2
      have bs := ((b1.new r).set 2 (.int .i64 (c + K)))
      have bt := bu.far (p := ⟨w.heap.size, 2, none⟩) (by show w.heap.size + 1 ≠ w.heap.size; omega) (.int .i64 (c + K))
      have qs := q.setCell (p := ⟨w.heap.size, 2, none⟩) (Nat.le_refl _) (.int .i64 (c + K))
      obtain ⟨Ws, hWs⟩ : ∃ v : World, v = u.setCell ⟨w.heap.size, 2, none⟩ (.int .i64 (c + K)) := ⟨_, rfl⟩
      rw [← hWs] at bs bt qs
      obtain ⟨n0, n1, n2⟩ := Bx.cells3 (a := .int .i64 a) (b := .int .i64 b) (c := .int .i64 (c + K)) bs (Below.refl _ _)
      obtain ⟨t0, t1, t2⟩ := bt.cells3 (Below.refl _ _)
      have f0' := bt.free 0
      have f1' := bt.free 1
      have f2' := bt.free 2
      have hWs' := hWs.symm
      clear hWs
      go_wp2_with fail
      have hq := below_sets3 qs (g := w.heap.size + 1) (x := .int .i64 a) (y := .int .i64 b) (z := .int .i64 (c + K)) (by omega)
      obtain ⟨e0, e1, e2⟩ := (bt.sets3 (x := .int .i64 a) (y := .int .i64 b) (z := .int .i64 (c + K))).cells3 (Below.refl _ _)
      refine bodyPost_ret (v := .tuple #[.agg #[.int .i64 a, .int .i64 b, .int .i64 (c + K)], .int .i64 K]) (by simp [results, Try.results18, go_sem, e0, e1, e2]) rfl ⟨?_, hq⟩
      rw [HV2.out, HS2.out]
end
end Go.Proofs.Ytamocldcfbjfgaa
