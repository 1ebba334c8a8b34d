/- Contract of slices.Insert of one point ahead of the end: in place, and where the row must grow. Condition: the points have at most 10^12 elements. -/
import Derived.Test.YtignchefkihdaaaInsC
import Derived.Test.YtignchefkihdaaaBits
namespace Go.Proofs.Ytignchefkihdaaa
open Go.ChangeShapes Go.WideShapes Go.ChangeAt Go.RowKit
set_option maxRecDepth 100000
theorem row3_cur {w : World} {lo hi n g c : Nat} {t : TypeId} {X : List T3} (h : Row3 w lo hi t (.slice (some ⟨g, 0, none⟩) n c) X) : ∃ cur : Array Value, w.heap[g]? = some (.cells cur t (0, 0)) ∧ cur.size = c * 3 ∧ cur.toList.take (n * 3) = t3s X ∧ X.length = n ∧ lo ≤ g ∧ g < hi := by
  obtain ⟨⟨h1, h2⟩, h3⟩ := h
  rcases h2 with ⟨e, hn⟩ | ⟨g', cap, cur, e, hb, hgg, hnc, hcm, hcs, htk⟩
  · injection e with e1; cases e1
  · injection e with e1 e2 e3
    injection e1 with e1
    injection e1 with e1
    subst e1 e2 e3
    exact ⟨cur, hgg, hcs, htk, rfl, hb, h3 g rfl⟩
theorem row3_mk {w : World} {lo g n c : Nat} {t : TypeId} {X : List T3} {cur : Array Value} (hg : w.heap[g]? = some (.cells cur t (0, 0))) (hn : X.length = n) (hlo : lo ≤ g) (hnc : n ≤ c) (hcm : c ≤ maxLen) (hs : cur.size = c * 3) (ht : cur.toList.take (n * 3) = t3s X) : Row3 w lo w.heap.size t (.slice (some ⟨g, 0, none⟩) n c) X := by
  subst hn
  exact ⟨⟨t3s_len X, .inr ⟨g, c, cur, rfl, hlo, hg, hnc, hcm, hs, ht⟩⟩, fun g' hg' => by
    simp [Value.ownBlock] at hg'
    subst hg'
    exact (Array.getElem?_eq_some_iff.1 hg).1⟩
theorem cell_cur {w : World} {g : Nat} {cur : Array Value} {t : TypeId} (h : w.heap[g]? = some (.cells cur t (0, 0))) (o : Nat) {cs : List Value} (hc : (cur.toList.drop o).take cs.length = cs) : ∀ j v, cs[j]? = some v → w.cell? ((⟨g, o, none⟩ : Addr).add j) = some v := fun j v hv => by
  have hj : j < cs.length := by
    rcases Nat.lt_or_ge j cs.length with h' | h'
    · exact h'
    · rw [List.getElem?_eq_none h'] at hv; cases hv
  have e : (⟨g, o, none⟩ : Addr).add j = ⟨g, o + j, none⟩ := by unfold Addr.add; split <;> simp_all
  rw [e, cell_of_row _ _ _ _ _ (0, 0) h]
  rw [← hc, List.getElem?_take, if_pos hj, List.getElem?_drop] at hv
  simpa using hv
theorem outRow3 {w : World} {lo hi g : Nat} (h1 : lo ≤ g) (h2 : g < hi) (cs : Array Value) : Out lo hi w (w.setRow g cs) :=
  ⟨rfl, rfl, rfl, by simp, fun k hk hn => setRow_other w g k cs (by omega)⟩
set_option maxHeartbeats 8000000 in
theorem insShift_any {w : World} {lo hi n g c p vb : Nat} {X : List T3} {x : T3} (hn : n ≤ 1000000000000) (hp : p < n) (hroom : n + 1 ≤ c) (hcm : c ≤ maxLen) (hrow : Row3 w lo hi 48 (.slice (some ⟨g, 0, none⟩) n c) X) (hlo : lo ≤ w.heap.size) (hvb : hi ≤ vb) (bx : Bx w vb 48 #[.int .i64 x.1, .int .i64 x.2.1, .int .i64 x.2.2]) :
    Calls Try.prog 97 #[.slice (some ⟨g, 0, none⟩) n c, .int .i64 (p : Int), .slice (some ⟨vb, 0, none⟩) 1 1] w (Ins X p x lo hi w) := by
  obtain ⟨i0, hi', hz0, hz1, hz2⟩ := info_parts PointS_info
  have hsz : (Try.prog.info? 48).map (·.size) = some 3 := by rw [hi']; simp [hz1]
  have zz : ∀ w, (Go.sizeOf 48).run Try.prog w = .ok 3 w := fun w => by simp [sizeOf, typeInfo, hi', hz1]
  obtain ⟨cur, hgg, hcs, htk, hX, hlg, hgh⟩ := row3_cur hrow
  have hne : vb ≠ g := by omega
  obtain ⟨N1, hN1⟩ : ∃ k, k = n + 1 := ⟨_, rfl⟩
  obtain ⟨p1, hp1⟩ : ∃ k, k = p + 1 := ⟨_, rfl⟩
  have ww1 : IntKind.i64.wrap ((n : Int) + 1) = (N1 : Int) := (IntWalk.i64_in _ (by omega)).trans (by omega)
  have ww2 : IntKind.i64.wrap ((p : Int) + 1) = (p1 : Int) := (IntWalk.i64_in _ (by omega)).trans (by omega)
  have hcmx : c ≤ 9223372036854775807 := by unfold maxLen at hcm; omega
  have hpn : ((p : Int) == (n : Int)) = false := by simpa using (show ¬ (p : Int) = (n : Int) by omega)
  have hcap : ¬ (c : Int) < (N1 : Int) := by omega
  have s1 := fun W => sl3 W g (n := n) (c := c) (k := p) (by omega) (by omega) (by omega)
  have s2 := fun W => sl3t W g (n := n) (c := c) (k := N1) (by omega)
  have s3 := fun W => sl3 W g (n := N1) (c := c) (k := p1) (by omega) (by omega) (by omega)
  have s4 := fun W => sl3 W g (n := N1) (c := c) (k := p) (by omega) (by omega) (by omega)
  have hsa : w.shape? vb = some (48, 3) := by unfold World.shape?; rw [show w.heap[vb]? = _ from bx]; rfl
  have hsb : w.shape? g = some (48, c * 3) := by unfold World.shape?; rw [hgg, ← hcs]
  have hov : ∀ lb cb, (callFunc 142 #[.slice (some ⟨vb, 0, none⟩) 1 1, .slice (some ⟨g, p1 * 3, none⟩) lb cb]).run Try.prog w = .ok (.value (.bool false)) w := fun lb cb => by
    rw [run_callFunc_extern Try.func142 (by kernel_rfl) (by kernel_rfl) (by kernel_rfl) (e := Extern.SlicesOverlaps.overlaps #[35, 35] #[4]) (by kernel_rfl),
      Lib.run_overlaps_apart w 35 4 48 Try.underlying35 3 zz ⟨vb, 0, none⟩ ⟨g, p1 * 3, none⟩ 1 1 lb cb hne _ _ _ _ hsa hsb (by omega) (bx.free 0) (bx.free 3)]
    rfl
  have hlc : cur.toList.length = c * 3 := by simpa using hcs
  have hl1 : (t3s (X.drop p)).length = (n - p) * 3 := by rw [t3s_len, List.length_drop, hX]
  obtain ⟨cur1, hc1⟩ : ∃ k : Array Value, k = (ovr cur.toList (p1 * 3) (t3s (X.drop p))).toArray := ⟨_, rfl⟩
  obtain ⟨cur2, hc2⟩ : ∃ k : Array Value, k = (ovr cur1.toList (p * 3) (t3s [x])).toArray := ⟨_, rfl⟩
  have hcp1 : ∀ ty dc sc, (Builtin.copy_ #[35, 35] ty #[.slice (some ⟨g, p1 * 3, none⟩) (N1 - p1) dc, .slice (some ⟨g, p * 3, none⟩) (N1 - p) sc]).run Try.prog w.drew = .ok (goInt ((n - p : Nat) : Int)) (w.drew.setRow g cur1) := fun ty dc sc => by
    rw [hc1]
    exact run_copy3 w.drew _ _ ty 48 g (p1 * 3) (N1 - p1) dc ⟨g, p * 3, none⟩ (N1 - p) sc (n - p) cur _ (t3s (X.drop p)) Try.underlying35 hsz (by simp only [Nat.min_def]; split <;> omega) hgg hl1
      (cell_cur hgg (p * 3) (by rw [hl1]; exact drop_t3 htk hX (by omega))) (by rw [hl1, hcs]; omega) (t3s_one _)
  have hcp2 : ∀ (W : World), W.heap[g]? = some (.cells cur1 48 (0, 0)) → W.heap[vb]? = w.heap[vb]? → ∀ ty dc, (Builtin.copy_ #[35, 35] ty #[.slice (some ⟨g, p * 3, none⟩) (N1 - p) dc, .slice (some ⟨vb, 0, none⟩) 1 1]).run Try.prog W = .ok (goInt ((1 : Nat) : Int)) (W.setRow g cur2) := fun W hW hV ty dc => by
    rw [hc2]
    exact run_copy3 W _ _ ty 48 g (p * 3) (N1 - p) dc ⟨vb, 0, none⟩ 1 1 1 cur1 _ (t3s [x]) Try.underlying35 hsz (by simp only [Nat.min_def]; split <;> omega) hW rfl
      (fun j v hj => by
        obtain ⟨ad, e, _, hc⟩ := (rd_bx3 (show Bx W vb _ _ from hV.trans bx)) j v hj
        injection e with e
        subst e
        exact hc)
      (by rw [hc1]; simp only [List.size_toArray]; rw [ovr_len (by rw [hl1, hlc]; omega), hlc]; simp [t3s]; omega) (t3s_one _)
  have HIN := Lib.hid (show cur2.toList.take (N1 * 3) = t3s (X.take p ++ [x] ++ X.drop p) ∧ cur2.size = c * 3 by
    have q := ins_cells (x := x) htk hX hp hlc hroom
    rw [hc2, hc1, hp1, hN1]
    simpa using q)
  have hg1 : (w.drew.setRow g cur1).heap[g]? = some (.cells cur1 48 (0, 0)) := setRow_heap _ g cur cur1 _ (0, 0) hgg
  have hv1 : (w.drew.setRow g cur1).heap[vb]? = w.heap[vb]? := setRow_other _ g vb _ hne
  have HLEN := Lib.hid (show (X.take p ++ [x] ++ X.drop p).length = N1 by simp; omega)
  have HN1 := Lib.hid hN1
  have HG := Lib.hid (And.intro hgg (And.intro hlg hgh))
  clear hc1 hc2 hN1 hp1 hcs htk hX hlc hl1 hsa hsb hgg
  have hcq := hcp2 _ hg1 hv1
  have hg2 : ((w.drew.setRow g cur1).setRow g cur2).heap[g]? = some (.cells cur2 48 (0, 0)) := setRow_heap _ g cur1 cur2 _ (0, 0) hg1
  have HG2 := Lib.hid hg2
  have HO := Lib.hid (show Out lo hi w ((w.drew.setRow g cur1).setRow g cur2) from (show Out lo hi w w.drew from ⟨rfl, rfl, rfl, Nat.le_refl _, fun _ _ _ => rfl⟩).trans ((outRow3 (w := w.drew) hlg hgh cur1).trans (outRow3 hlg hgh cur2)))
  have HLO := Lib.hid hlo
  clear hcp2 hg1 hv1 hg2 hrow
  go_enter Try.func97, Try.ntmps97
  go_wp2_with fail
  go_region
  go_wp2
  go_ret
  exact ⟨_, rfl, row3_mk HG2.out HLEN.out hlg (by rw [HN1.out]; exact hroom) hcm HIN.out.2 HIN.out.1, HO.out⟩
end Go.Proofs.Ytignchefkihdaaa
