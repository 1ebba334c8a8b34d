/- Contract of slices.Insert of one point: whatever the place and the room. Condition: the points have at most 10^12 elements. -/
import Derived.Test.YtignchefkihdaaaInsC2
namespace Go.Proofs.Ytignchefkihdaaa
open Go.ChangeShapes Go.WideShapes Go.ChangeAt Go.RowKit
set_option maxRecDepth 100000
theorem ins_cells2 {row : List Value} {X : List T3} {n G p : Nat} {x : T3} (h : row.take (p * 3) = t3s (X.take p)) (hn : X.length = n) (hp : p < n) (hG : row.length = G * 3) (hnG : n + 1 ≤ G) :
    (ovr (ovr row (p * 3) (t3s [x])) ((p + 1) * 3) (t3s (X.drop p))).take ((n + 1) * 3) = t3s (X.take p ++ [x] ++ X.drop p) ∧ (ovr (ovr row (p * 3) (t3s [x])) ((p + 1) * 3) (t3s (X.drop p))).length = G * 3 := by
  have hl1 : (t3s (X.drop p)).length = (n - p) * 3 := by rw [t3s_len, List.length_drop, hn]
  have hlx : (t3s [x]).length = 3 := rfl
  have hlt : (t3s (X.take p)).length = p * 3 := by rw [t3s_len, List.length_take, hn, Nat.min_eq_left (by omega)]
  have hA := ovr_len (l := row) (o := p * 3) (cs := t3s [x]) (by rw [hlx, hG]; omega)
  have hB := ovr_len (l := ovr row (p * 3) (t3s [x])) (o := (p + 1) * 3) (cs := t3s (X.drop p)) (by rw [hA, hl1, hG]; omega)
  refine ⟨?_, by rw [hB, hA, hG]⟩
  have h1 : (ovr row (p * 3) (t3s [x])).take ((p + 1) * 3) = t3s (X.take p) ++ t3s [x] := by
    show (row.take (p * 3) ++ t3s [x] ++ row.drop (p * 3 + (t3s [x]).length)).take ((p + 1) * 3) = _
    rw [h, List.take_append_of_le_length (by rw [List.length_append, hlx, hlt]; omega), List.take_of_length_le (by rw [List.length_append, hlx, hlt]; omega)]
  show ((ovr row (p * 3) (t3s [x])).take ((p + 1) * 3) ++ t3s (X.drop p) ++ (ovr row (p * 3) (t3s [x])).drop ((p + 1) * 3 + (t3s (X.drop p)).length)).take ((n + 1) * 3) = _
  rw [h1, t3s_app, t3s_app, List.take_append_of_le_length (by rw [List.length_append, List.length_append, hlx, hlt, hl1]; omega), List.take_of_length_le (by rw [List.length_append, List.length_append, hlx, hlt, hl1]; omega)]
set_option maxHeartbeats 8000000 in
theorem insGrow_any {w : World} {lo hi n g p vb : Nat} {X : List T3} {x : T3} (hn : n ≤ 1000000000000) (hp : p < n) (hrow : Row3 w lo hi 48 (.slice (some ⟨g, 0, none⟩) n n) X) (hlo : lo ≤ w.heap.size) (bx : Bx w vb 48 #[.int .i64 x.1, .int .i64 x.2.1, .int .i64 x.2.2]) :
    Calls Try.prog 97 #[.slice (some ⟨g, 0, none⟩) n n, .int .i64 (p : Int), .slice (some ⟨vb, 0, none⟩) 1 1] w (Ins X p x lo hi w) := by
  obtain ⟨i0, hi', hz0, hz1, hz2⟩ := info_parts PointS_info
  have hsz : (Try.prog.info? 48).map (·.size) = some 3 := by rw [hi']; simp [hz1]
  obtain ⟨cur, hgg, hcs, htk, hX, hlg, hgh⟩ := row3_cur hrow
  have hgw : g < w.heap.size := (Array.getElem?_eq_some_iff.1 hgg).1
  have hvw : vb < w.heap.size := bx.lt
  obtain ⟨N1, hN1⟩ : ∃ k, k = n + 1 := ⟨_, rfl⟩
  obtain ⟨p1, hp1⟩ : ∃ k, k = p + 1 := ⟨_, rfl⟩
  obtain ⟨d, hd⟩ : ∃ k, k = n + 1 - p := ⟨_, rfl⟩
  have ww1 : IntKind.i64.wrap ((n : Int) + 1) = (N1 : Int) := (IntWalk.i64_in _ (by omega)).trans (by omega)
  have ww2 : IntKind.i64.wrap ((p : Int) + 1) = (p1 : Int) := (IntWalk.i64_in _ (by omega)).trans (by omega)
  have ww3 : IntKind.i64.wrap ((N1 : Int) - (p : Int)) = (d : Int) := (IntWalk.i64_in _ (by omega)).trans (by omega)
  have hpn : ((p : Int) == (n : Int)) = false := by simpa using (show ¬ (p : Int) = (n : Int) by omega)
  have hcap : (n : Int) < (N1 : Int) := by omega
  have hpd : p + d = N1 := by omega
  obtain ⟨G, hG⟩ : ∃ G, G = grownCap w N1 n 48 := ⟨_, rfl⟩
  have hGe : N1 ≤ G := by rw [hG]; exact grownCap_ge w N1 n _
  have hGm : G ≤ maxLen := by rw [hG]; exact grownCap_le_maxLen w N1 n _ (by unfold maxLen; omega)
  obtain ⟨ROW, hROW⟩ : ∃ R : Array Value, R = (t3s (X.take p)).toArray ++ Builtin.zeroCells (Value.agg #[.int .i64 0, .int .i64 0, .int .i64 0]).cells d ++ Builtin.zeroCells (Value.agg #[.int .i64 0, .int .i64 0, .int .i64 0]).cells (G - N1) := ⟨_, rfl⟩
  have hlt : (t3s (X.take p)).length = p * 3 := by rw [t3s_len, List.length_take, hX, Nat.min_eq_left (by omega)]
  have hRl : ROW.size = G * 3 := by
    rw [hROW]
    simp [size_zeroCells, hlt, Value.cells]
    omega
  have hRt : ROW.toList.take (p * 3) = t3s (X.take p) := by
    rw [hROW]
    simp only [Array.toList_append, List.append_assoc]
    rw [List.take_append_of_le_length (by rw [hlt]; exact Nat.le_refl _), List.take_of_length_le (by rw [hlt]; exact Nat.le_refl _)]
  have hold : (Builtin.firstCells i0.size p (.slice (some ⟨g, 0, none⟩) p n)).run Try.prog w.drew = .ok (t3s (X.take p)).toArray w.drew := by
    rw [hz1]
    refine run_firstCells_some (P := Try.prog) (w := w.drew) 3 p ⟨g, 0, none⟩ p n (t3s (X.take p)) hlt ?_
    exact cell_cur (w := w.drew) hgg 0 (by rw [hlt, List.drop_zero]; exact take_t3 htk hX (by omega))
  have hrz : ∀ ty, (Builtin.append_ #[35, 3] ty #[.slice (some ⟨g, 0, none⟩) p n, .int .i64 (d : Int)]).run Try.prog w = .ok (.slice (some ⟨w.heap.size, 0, none⟩) N1 G) (w.drew.alloc (.cells ROW 48)) := fun ty => by
    have h := Lib.run_append_grow_zeros (P := Try.prog) w 35 3 ty 48 i0 _ .i64 .i64 Try.underlying35 Try.underlying3 hi' hz0 (some ⟨g, 0, none⟩) p n (t3s (X.take p)) hold d (by omega) (by rw [hz1]; omega) (by omega) (by omega) (by rw [hz2]; omega) (by rw [hz2]; exact growslice_fits (by omega) (by omega))
    rw [hpd, ← hG, ← hROW] at h
    exact h
  obtain ⟨Wn, hWn⟩ : ∃ k, k = w.heap.size := ⟨_, rfl⟩
  have hgn : g ≠ Wn := by omega
  have hvn : vb ≠ Wn := by omega
  obtain ⟨W1, hW1⟩ : ∃ W : World, w.drew.alloc (.cells ROW 48) = W := ⟨_, rfl⟩
  have b1 : Below w.heap.size w W1 := by rw [← hW1]; exact (Below.refl _ _).drew.alloc (Nat.le_refl _) _
  have r1 : W1.heap[Wn]? = some (.cells ROW 48 (0, 0)) := by rw [← hW1, hWn]; exact heap_alloc_new w.drew _
  rw [hW1, ← hWn] at hrz
  have s1 := fun W => sl3 W g (n := n) (c := n) (k := p) (by omega) (by omega) (by omega)
  have s2 := fun W => sl3t W g (n := n) (c := n) (k := p) (by omega)
  have s3 := fun W => sl3 W Wn (n := N1) (c := G) (k := p) (by omega) hGe (by omega)
  have s4 := fun W => sl3 W Wn (n := N1) (c := G) (k := p1) (by omega) hGe (by omega)
  have hl1 : (t3s (X.drop p)).length = (n - p) * 3 := by rw [t3s_len, List.length_drop, hX]
  obtain ⟨cur1, hc1⟩ : ∃ k : Array Value, k = (ovr ROW.toList (p * 3) (t3s [x])).toArray := ⟨_, rfl⟩
  obtain ⟨cur2, hc2⟩ : ∃ k : Array Value, k = (ovr cur1.toList (p1 * 3) (t3s (X.drop p))).toArray := ⟨_, rfl⟩
  have hlR : ROW.toList.length = G * 3 := by simpa using hRl
  have hcp1 : ∀ ty dc, (Builtin.copy_ #[35, 35] ty #[.slice (some ⟨Wn, p * 3, none⟩) (N1 - p) dc, .slice (some ⟨vb, 0, none⟩) 1 1]).run Try.prog W1 = .ok (goInt ((1 : Nat) : Int)) (W1.setRow Wn cur1) := fun ty dc => by
    rw [hc1]
    exact run_copy3 W1 _ _ ty 48 Wn (p * 3) (N1 - p) dc ⟨vb, 0, none⟩ 1 1 1 ROW _ (t3s [x]) Try.underlying35 hsz (by simp only [Nat.min_def]; split <;> omega) r1 rfl
      (fun j v hj => by
        obtain ⟨ad, e, _, hc⟩ := (rd_bx3 (bx.new b1)) j v hj
        injection e with e
        subst e
        exact hc)
      (by rw [hRl]; simp [t3s]; omega) (t3s_one _)
  have r2 : (W1.setRow Wn cur1).heap[Wn]? = some (.cells cur1 48 (0, 0)) := setRow_heap _ Wn ROW cur1 _ (0, 0) r1
  have hg2 : (W1.setRow Wn cur1).heap[g]? = some (.cells cur 48 (0, 0)) := (setRow_other _ Wn g _ hgn).trans ((b1.block g hgw).trans hgg)
  obtain ⟨W2, hW2⟩ : ∃ W : World, W1.setRow Wn cur1 = W := ⟨_, rfl⟩
  rw [hW2] at r2 hg2 hcp1
  have hcp2 : ∀ ty dc sc, (Builtin.copy_ #[35, 35] ty #[.slice (some ⟨Wn, p1 * 3, none⟩) (N1 - p1) dc, .slice (some ⟨g, p * 3, none⟩) (n - p) sc]).run Try.prog W2.drew = .ok (goInt ((n - p : Nat) : Int)) (W2.drew.setRow Wn cur2) := fun ty dc sc => by
    rw [hc2]
    exact run_copy3 W2.drew _ _ ty 48 Wn (p1 * 3) (N1 - p1) dc ⟨g, p * 3, none⟩ (n - p) sc (n - p) cur1 _ (t3s (X.drop p)) Try.underlying35 hsz (by simp only [Nat.min_def]; split <;> omega) r2 hl1
      (cell_cur (w := W2.drew) hg2 (p * 3) (by rw [hl1]; exact drop_t3 htk hX (by omega))) (by rw [hl1, hc1]; simp only [List.size_toArray]; rw [ovr_len (by rw [hlR]; simp [t3s]; omega), hlR]; omega) (t3s_one _)
  have HIN := Lib.hid (show cur2.toList.take (N1 * 3) = t3s (X.take p ++ [x] ++ X.drop p) ∧ cur2.size = G * 3 by
    have q := ins_cells2 (x := x) hRt hX hp hlR (by omega)
    rw [hc2, hc1, hp1, hN1]
    simpa using q)
  have HLEN := Lib.hid (show (X.take p ++ [x] ++ X.drop p).length = N1 by simp; omega)
  have HG2 := Lib.hid (show (W2.drew.setRow Wn cur2).heap[Wn]? = some (.cells cur2 48 (0, 0)) from setRow_heap _ Wn cur1 cur2 _ (0, 0) r2)
  have HO := Lib.hid (show Out lo hi w (W2.drew.setRow Wn cur2) by
    have o1 : Out lo hi w W1 := Out.of_below b1
    have o2 : Out lo hi w W2 := by
      rw [← hW2]
      exact ⟨o1.os, o1.tape, o1.output, by simpa using o1.size, fun k hk hn => (setRow_other W1 Wn k cur1 (by omega)).trans (o1.block k hk hn)⟩
    exact ⟨o2.os, o2.tape, o2.output, by simpa using o2.size, fun k hk hn => (setRow_other W2.drew Wn k cur2 (by omega)).trans (o2.block k hk hn)⟩)
  have hloW : lo ≤ Wn := by omega
  have HRZ := Lib.hid hrz
  clear hrz
  clear hc1 hc2 hN1 hp1 hd hcs htk hX hlR hl1 hgg hg2 r1 r2 hW1 hW2 hG hROW hRl hRt hold hWn b1 bx hlt hpd hrow
  go_enter Try.func97, Try.ntmps97
  go_wp2_with (at_builtin; refine wpList_az3 _ rfl (.tmp 34) (.tmp 39) 35 3 rfl _ _ rfl rfl (HRZ.out _) ?_)
  go_region
  go_wp2
  go_ret
  exact ⟨_, rfl, row3_mk HG2.out HLEN.out hloW hGe hGm HIN.out.2 HIN.out.1, HO.out⟩
theorem insert_any {w : World} {lo hi n p vb : Nat} {v : Value} {X : List T3} {x : T3} (hl : Hid (X.length = n)) (hn : n ≤ 1000000000000) (hp : p ≤ n) (hrow : Row3 w lo hi 48 v X) (hlo : lo ≤ w.heap.size) (hvb : hi ≤ vb) (bx : Bx w vb 48 #[.int .i64 x.1, .int .i64 x.2.1, .int .i64 x.2.2]) :
    Calls Try.prog 97 #[v, .int .i64 (p : Int), .slice (some ⟨vb, 0, none⟩) 1 1] w (Ins X p x lo hi w) := by
  rcases Nat.lt_or_ge p n with h | h
  · obtain ⟨g, c, rfl, _, _, _, hnc, hcm⟩ := hrow.base hl.out (by omega)
    rcases Nat.lt_or_ge n c with hc | hc
    · exact insShift_any hn h hc hcm hrow hlo hvb bx
    · have e : c = n := by omega
      subst e
      exact insGrow_any hn h hrow hlo bx
  · have e : p = n := by omega
    subst e
    exact insEnd_any hl hn hrow hlo bx
end Go.Proofs.Ytignchefkihdaaa
