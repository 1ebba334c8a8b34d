/- Contract of the code's MustSpeak. Condition: the points have at most 2^40 elements. -/
import Derived.Test.YtignchefkihdaaaSetC
import Derived.Test.YtignchefkihdaaaGrow
import Derived.RangeFuncBox
import Derived.Maps.AppendAt
namespace Go.Proofs.Ytignchefkihdaaa
open Go.ChangeShapes Go.WideShapes Go.ChangeAt Go.RowKit Go.Shelf
attribute [local go_sem] Oper.semAt_some
set_option maxRecDepth 100000
/-- A new block that one value holds. -/
theorem boxed_bx {w : World} {g : Nat} {t : TypeId} {v : Value} (h : Bx w g t #[v]) : Boxed w g t v := h
theorem ivs_snc (L : List Int) (x : Int) : ivs (L ++ [x]) = ivs L ++ [.int .i64 x] := by simp [ivs]
set_option maxHeartbeats 4000000 in
theorem impMustSpeak_any {w : World} {A : Option Addr} {N c : Nat} {s : Int} {X : List T3} (hl : Hid (X.length = N)) (hN : N ≤ 1000000000000) (hr : Rd w w.heap.size A (t3s X)) :
    Calls Try.prog 29 #[.slice A N c, .int .i64 s] w (Fresh 3 (ivs (mstL X s)) w) := by
  refine (callsIn_wide (n := 3)).1 ?_
  have h1 : 1 ≤ 3 := by omega
  obtain ⟨i0, hi, hz0, hz1, hz2⟩ := info_parts IntS_info
  -- the boxes ahead of the loop
  have b1 := alloc_new' w (Obj.cells #[.int .i64 s] 3)
  have c1 := Bx.made w 3 #[.int .i64 s]
  obtain ⟨W1, hW1⟩ : ∃ u : World, w.alloc (Obj.cells #[.int .i64 s] 3) = u := ⟨_, rfl⟩
  have hs1 : W1.heap.size = w.heap.size + 1 := by rw [← hW1]; simp
  rw [hW1] at b1 c1
  have b2 := alloc_new' W1 (Obj.cells #[] 3)
  have row2 := (Row.made (w := W1) W1.heap.size #[] 0 3 (Nat.le_refl _) rfl (Nat.zero_le _))
  obtain ⟨W2, hW2⟩ : ∃ u : World, W1.alloc (Obj.cells #[] 3) = u := ⟨_, rfl⟩
  have hs2 : W2.heap.size = w.heap.size + 1 + 1 := by rw [← hW2]; simp [hs1]
  rw [hW2] at b2 row2
  rw [hs1] at row2
  have b3 := alloc_new' W2 (Obj.cells #[.slice (some ⟨w.heap.size + 1, 0, none⟩) 0 0] 25)
  have c3 := Bx.made W2 25 #[.slice (some ⟨w.heap.size + 1, 0, none⟩) 0 0]
  obtain ⟨W3, hW3⟩ : ∃ u : World, W2.alloc (Obj.cells #[.slice (some ⟨w.heap.size + 1, 0, none⟩) 0 0] 25) = u := ⟨_, rfl⟩
  have hs3 : W3.heap.size = w.heap.size + 1 + 1 + 1 := by rw [← hW3]; simp [hs2]
  rw [hW3] at b3 c3
  rw [hs2] at c3
  have b4 := alloc_new' W3 (Obj.cells #[.slice A N c] 35)
  have c4 := Bx.made W3 35 #[.slice A N c]
  obtain ⟨W4, hW4⟩ : ∃ u : World, W3.alloc (Obj.cells #[.slice A N c] 35) = u := ⟨_, rfl⟩
  have hs4 : W4.heap.size = w.heap.size + 1 + 1 + 1 + 1 := by rw [← hW4]; simp [hs3]
  rw [hW4] at b4 c4
  rw [hs3] at c4
  have HW3 := Lib.hid (show ((w.alloc (Obj.cells #[.int .i64 s] 3)).alloc (Obj.cells #[] 3)).alloc (Obj.cells #[.slice (some ⟨w.heap.size + 1, 0, none⟩) 0 0] 25) = W3 by rw [hW1, hW2, hW3])
  have HW4 := Lib.hid hW4
  have k4 := ((b1.trans (b2.mono b1.size)).trans (b3.mono (by omega))).trans (b4.mono (by omega))
  have d1 := ((c1.new b2).new b3).new b4
  have d2 := (row2.new b3).new b4
  have d3 := c3.new b4
  have e1 := d1.at_ (k := 0) rfl
  have e4 := c4.at_ (k := 0) rfl
  have HR := Lib.hid hr
  have HS3 := Lib.hid hs3
  clear hW1 hW2 hW3 hW4 c1 c3 c4 row2 b1 b2 b3 b4 hr hs1 hs2 hs3
  refine callsIn_of_wp_marks Try.func29 rfl trivial ?_ rfl
  simp only [Try.ntmps29, List.size_toArray, List.length_cons, List.length_nil, Nat.reduceAdd, Nat.reduceSub, Array.replicate_succ, Array.replicate_zero, List.push_toArray, List.append_toArray, List.nil_append, List.cons_append]
  gi_wp2_with fail
  refine ⟨trivial, ?_⟩
  rw [HW3.out]
  refine (callsIn_wide.2 due_any).mono ?_
  rintro e w5 ⟨rfl, rfl⟩
  rw [HW4.out]
  rw [HS3.out]
  gi_wp2_with fail
  refine wpIn_rangeFunc_ownG rfl h1 (gf := 140) (lb := #[.pointer (some ⟨w.heap.size + 1 + 1 + 1, 0, none⟩)]) rfl trivial (enters_of Try.func140 (by kernel_rfl) rfl)
    (due_stops 2 (by omega) (w.heap.size + 1 + 1 + 1) w.heap.size hl (by omega) e4 (HR.out.below k4) k4.size) belowK_t (belowK_b (by omega)) (Below.refl _ _) (fun _ => rfl)
    (fun pre W => ((∃ v, Boxed W (w.heap.size + 1 + 1) 25 v ∧ W.ownsRow (w.heap.size + 1) 3 1 v (sidL s pre).length (ivs (sidL s pre)) ∧ True) ∧ W.cell? ⟨w.heap.size, 0, none⟩ = some (.int .i64 s)) ∧ Below w.heap.size w W)
    (fun _ _ _ => False)
    (OwnFrom.and (Own.from (fun st A B row hs hg hr => ⟨holdsRow_own (w.heap.size + 1) (w.heap.size + 1 + 1) 25 3 1 (fun pre => (sidL s pre).length) (fun pre => ivs (sidL s pre)) (fun _ _ => True) st A B row hs.1 hg hr, cell_kept hs.2 hg hr⟩) _) (ownFrom_below (Nat.le_refl _) (by omega)))
    (fun _ _ _ _ _ hs _ _ => hs)
    ⟨⟨⟨_, boxed_bx d3, d2.own rfl, trivial⟩, e1⟩, k4⟩
    (fun x => { tmps := #[.slice A N c, .int .i64 s, undef, .pointer (some ⟨w.heap.size, 0, none⟩), .slice none 0 0, .pointer (some ⟨w.heap.size + 1 + 1, 0, none⟩), .int .i64 (spkA x), .int .i64 x.1, .slice (some ⟨w.heap.size + 1, 0, none⟩) 0 0, .slice A N c, .func (.func 140) #[] #[.pointer (some ⟨w.heap.size + 1 + 1 + 1, 0, none⟩)], .int .i64 (spkA x), .int .i64 x.1, undef, undef, undef, undef, undef, undef, undef, undef], defers := [] }) ?assign ?body ?done ?stop
  case assign =>
    intro l x W K hK
    gi_wp2
    exact hK
  case body =>
    rintro l pre x W ⟨⟨⟨v, hv, hrow, _⟩, hsc⟩, hB⟩ hlt
    have hc := hv.cell
    have hf := hv.frozen
    have hpl := sidL_len s pre
    have hszW := hB.size
    obtain ⟨sp, hsp⟩ : ∃ y, spkA x = y := ⟨_, rfl⟩
    obtain ⟨L, hL⟩ : ∃ y, sidL s pre = y := ⟨_, rfl⟩
    rw [hL] at hpl hrow
    have HL := Lib.hid hL
    have HSP := Lib.hid hsp
    rw [hsp]
    have hlb := hv.lt
    clear hsp hL
    by_cases hq : sp = s
    · have hqb : (sp == s) = true := by simpa using hq
      have HV := Lib.hid (show sidL s (pre ++ [x]) = L ++ [x.1] by rw [sidL_hit (HSP.out.trans hq), HL.out])
      clear hq
      gi_wp2_with (gi_at_builtin; refine wpListIn_append_own _ rfl _ _ 25 rfl (w.heap.size + 1) 3 i0 (.int .i64 0) 1 8 Try.underlying25 hi hz0 hz1 hz2 rfl (by decide) _ _ _ rfl (hrow.alloc _) ⟨W.heap.size, 0, none⟩ 1 1 [.int .i64 x.1] rfl rfl (cell_one_new _ _ _) (by simp [Value.oneCell']) (by unfold maxLen; omega) (by omega) (by simp; omega) ?_; intro v' w1 hown' hgrow _; obtain ⟨g', cap', rfl⟩ := ownsRow_succ hown'; obtain ⟨hv1, hv2, hr2, hk2, hb2⟩ := hv.appended (by decide) hrow (by omega) (by omega) hown' hgrow; have hc1 := hv1.cell; have hf1 := hv1.frozen)
      have hb3 := hb2.mono (Nat.le_succ w.heap.size)
      exact ⟨hk2.from _, hb3, ⟨⟨_, hv2, by rw [HV.out, ivs_snc]; simpa using hr2, trivial⟩, (hb2.cell (p := ⟨w.heap.size, 0, none⟩) (Nat.lt_succ_self _)).trans hsc⟩, hB.trans hb3⟩
    · have hqb : (sp == s) = false := by simpa using hq
      have HV := Lib.hid (show sidL s (pre ++ [x]) = L by rw [sidL_miss (by rw [HSP.out]; exact hq), HL.out])
      clear hq
      gi_wp2
      exact ⟨KeepsFrom.refl _ _, Below.refl _ _, ⟨⟨v, hv, by rw [HV.out]; exact hrow, trivial⟩, hsc⟩, hB⟩
  case done =>
    rintro D ys W hD rfl ⟨⟨⟨v, hv, hrow, _⟩, hsc⟩, hB⟩ hK
    have hc := hv.cell
    have HV := Lib.hid (mst_due X s)
    rw [← mst_due] at hrow
    gi_wp2
    refine ⟨by simp, .inl ⟨_, _, rfl, run_takeDeferred hK, ?_⟩⟩
    refine ⟨_, results_tmp rfl _ _ _, v, rfl, ?_, hB.trans (belowK_b (w := w) (Nat.le_refl _) W D _ _ (by omega) hK rfl rfl)⟩
    exact (Row.of_own (ownsRow_putObj hrow _ hK rfl)).wide (by omega) (Nat.le_refl _)
  case stop =>
    rintro D c pre W _ _ h _
    exact h.elim
end Go.Proofs.Ytignchefkihdaaa
